/-
  A set that no call made: walks of its methods, at nil and at a plain Set.
  bits.New, and what a set looks like in memory.
  Same of a set that no call made, and the walk of the law on such sets.
  Plain: how many bits a word has, and that the library's reckoning of it tells just that.
  A set: Add, Drop, Has, Bound.
  A set by its numbers alone: what Add, Drop and Has make of them.
  How many bits a word has, and Count.
-/
import Derived.Test.YtdihbeffomibeaaGreatDoorRows
import Derived.WalkKit
import Derived.ProofKit
import Derived.Deep.LoopGhost
import Derived.Deep.Draws
import Derived.Lib.SliceRun
import Derived.Lib.Walk
import Derived.Lib.Builder
import Derived.RegionTactic
import Derived.Deep.QuietTactic
import Derived.BigQuiet
import Derived.Deep.OwnRows
import Derived.Laws.BitsAllLaws
import Derived.Lib.SmallJoins
import Derived.Laws.Bits128
namespace Go.Proofs.YtdihbeffomibeaaGreatDoor
set_option linter.unusedVariables false
set_option linter.unusedSimpArgs false
open Go.RowKit

theorem hid {p : Prop} (h : p) : Hid p := h
theorem below_box (w : World) (o : Obj) : Below w.heap.size w (w.alloc o) := (Below.refl _ _).alloc (Nat.le_refl _) _
theorem below_drewN {B : Nat} {w w' : World} (h : Below B w w') (q : Nat) : Below B w (w'.drewN q) := ⟨h.os, h.tape, h.output, h.size, h.block⟩
theorem new_cells (w : World) (cs : Array Value) (t : TypeId) (j : Nat) : (w.alloc (.cells cs t)).cell? ⟨w.heap.size, j, none⟩ = cs[j]? := Lib.cell_of_heap (heap_alloc_new w _) j

/-- nil, or a Set that no call made. -/
def NoSet (w : World) (v : Value) : Prop := v = .pointer none ∨ ∃ b, v = .pointer (some ⟨b, 0, none⟩) ∧ w.cell? ⟨b, 0, none⟩ = some (.bool false)
theorem NoSet.later {w w' : World} {v : Value} (h : NoSet w v) (hb : Below w.heap.size w w') : NoSet w' v := by
  rcases h with h | ⟨b, h, c0⟩
  · exact .inl h
  · have hlt : b < w.heap.size := World.block_lt_of_cell? _ _ c0
    exact .inr ⟨b, h, (hb.cell (p := ⟨b, 0, none⟩) hlt).trans c0⟩
theorem NoSet.ptr {w : World} {v : Value} (h : NoSet w v) : ∃ p, v = .pointer p := by
  rcases h with h | ⟨b, h, c0⟩
  · exact ⟨_, h⟩
  · exact ⟨_, h⟩

theorem isMade_at (b : Nat) (m : Bool) (w : World) (h : w.cell? ⟨b, 0, none⟩ = some (.bool m)) : Calls Tryz.prog 80 #[.pointer (some ⟨b, 0, none⟩)] w fun e w' => e = .returned (.bool m) ∧ w = w' := by
  go_enter Tryz.func80, Tryz.ntmps80
  go_wp2
  go_ret
  exact ⟨rfl, rfl⟩
theorem isMade_no (v : Value) (w : World) (h : NoSet w v) : Calls Tryz.prog 80 #[v] w fun e w' => e = .returned (.bool false) ∧ w = w' := by
  rcases h with rfl | ⟨b, rfl, c0⟩
  · go_enter Tryz.func80, Tryz.ntmps80
    go_wp2
    go_ret
    exact ⟨rfl, rfl⟩
  · exact isMade_at b false w c0
theorem check_no (v : Value) (n : Int) (w : World) (h : NoSet w v) : Calls Tryz.prog 67 #[v, .int .i64 n] w fun e w' => e = .returned (.int .i64 2) ∧ w = w' := by
  obtain ⟨p, rfl⟩ := h.ptr
  have H := hid h
  clear h
  go_enter Tryz.func67, Tryz.ntmps67
  go_wp2_with (go_at_call 80; refine (isMade_no _ _ H.out).mono ?_; rintro e w' ⟨rfl, rfl⟩)
  go_ret
  exact ⟨rfl, rfl⟩
theorem add_no (v : Value) (n : Int) (w : World) (h : NoSet w v) : Calls Tryz.prog 55 #[v, .int .i64 n] w fun e w' => e = .returned (.int .i64 2) ∧ w = w' := by
  obtain ⟨p, rfl⟩ := h.ptr
  have H := hid h
  clear h
  go_enter Tryz.func55, Tryz.ntmps55
  go_wp2_with (go_at_call 67; refine (check_no _ _ _ H.out).mono ?_; rintro e w' ⟨rfl, rfl⟩)
  go_ret
  exact ⟨rfl, rfl⟩
theorem has_no (v : Value) (n : Int) (w : World) (h : NoSet w v) : Calls Tryz.prog 64 #[v, .int .i64 n] w fun e w' => e = .returned (.bool false) ∧ w = w' := by
  obtain ⟨p, rfl⟩ := h.ptr
  have H := hid h
  clear h
  go_enter Tryz.func64, Tryz.ntmps64
  go_wp2_with (go_at_call 67; refine (check_no _ _ _ H.out).mono ?_; rintro e w' ⟨rfl, rfl⟩)
  go_ret
  exact ⟨rfl, rfl⟩
theorem bound_no (v : Value) (w : World) (h : NoSet w v) : Calls Tryz.prog 75 #[v] w fun e w' => e = .returned (.int .i64 0) ∧ w = w' := by
  obtain ⟨p, rfl⟩ := h.ptr
  have H := hid h
  clear h
  go_enter Tryz.func75, Tryz.ntmps75
  go_wp2_with (go_at_call 80; refine (isMade_no _ _ H.out).mono ?_; rintro e w' ⟨rfl, rfl⟩)
  go_ret
  exact ⟨rfl, rfl⟩
theorem next_no (v : Value) (n : Int) (w : World) (h : NoSet w v) : Calls Tryz.prog 77 #[v, .int .i64 n] w fun e w' => e = .returned (.tuple #[.int .i64 0, .bool false]) ∧ w = w' := by
  obtain ⟨p, rfl⟩ := h.ptr
  have H := hid h
  clear h
  go_enter Tryz.func77, Tryz.ntmps77
  go_wp2_with (go_at_call 67; refine (check_no _ _ _ H.out).mono ?_; rintro e w' ⟨rfl, rfl⟩)
  all_goals
    go_ret2
    exact ⟨rfl, rfl⟩
theorem merge_no1 (v u f : Value) (w : World) (h : NoSet w v) : Calls Tryz.prog 89 #[v, u, f] w fun e w' => e = .returned (.tuple #[.bool false, .int .i64 2]) ∧ w = w' := by
  obtain ⟨p, rfl⟩ := h.ptr
  have H := hid h
  clear h
  go_enter Tryz.func89, Tryz.ntmps89
  go_wp2_with (go_at_call 80; refine (isMade_no _ _ H.out).mono ?_; rintro e w' ⟨rfl, rfl⟩)
  go_ret2
  exact ⟨rfl, rfl⟩
theorem merge_no2 (b : Nat) (u f : Value) (w : World) (hm : w.cell? ⟨b, 0, none⟩ = some (.bool true)) (h : NoSet w u) : Calls Tryz.prog 89 #[.pointer (some ⟨b, 0, none⟩), u, f] w fun e w' => e = .returned (.tuple #[.bool false, .int .i64 2]) ∧ w = w' := by
  obtain ⟨p, rfl⟩ := h.ptr
  have H := hid h
  clear h
  have HM := hid hm
  clear hm
  go_enter Tryz.func89, Tryz.ntmps89
  go_wp2_with fail
  refine (isMade_at _ _ _ HM.out).mono ?_
  rintro e w' ⟨rfl, rfl⟩
  go_wp2_with fail
  refine (isMade_no _ _ H.out).mono ?_
  rintro e w' ⟨rfl, rfl⟩
  go_wp2_with fail
  go_ret2
  exact ⟨rfl, rfl⟩
theorem or_no1 (v u : Value) (w : World) (h : NoSet w v) : Calls Tryz.prog 76 #[v, u] w fun e w' => e = .returned (.tuple #[.bool false, .int .i64 2]) ∧ w = w' := by
  obtain ⟨p, rfl⟩ := h.ptr
  have H := hid h
  clear h
  go_enter Tryz.func76, Tryz.ntmps76
  go_wp2_with (go_at_call 89; refine (merge_no1 _ _ _ _ H.out).mono ?_; rintro e w' ⟨rfl, rfl⟩)
  go_ret2
  exact ⟨rfl, rfl⟩
end Go.Proofs.YtdihbeffomibeaaGreatDoor
namespace Go.Proofs.YtdihbeffomibeaaGreatDoor
set_option linter.unusedVariables false
set_option linter.unusedSimpArgs false
open Go.RowKit

theorem Tryz.info68 : (Tryz.prog.info? 109).map (fun i => (i.zero, i.size, i.bytes)) = some (some (.int .u64 0), 1, 8) := by kernel_rfl

theorem cut_any (a : Addr) (m : Nat) (w : World) (hm : m ≤ 4096) : Calls Tryz.prog 66 #[.slice (some a) m m] w fun e w' => e = .returned (.slice (some a) m m) ∧ w = w' := by
  go_enter Tryz.func66, Tryz.ntmps66
  go_wp2
  go_ret
  exact ⟨rfl, rfl⟩

/-- Words as cells. -/
def wordsV (ws : List Nat) : Array Value := (ws.map fun x : Nat => Value.int .u64 x).toArray
/-- A set of bound n in block b, its words in block c. -/
structure SetAt (w : World) (b n c : Nat) (ws : List Nat) : Prop where
  box : w.heap[b]? = some (.cells #[.bool true, .int .i64 n, .slice (some ⟨c, 0, none⟩) ws.length ws.length] 108)
  row : w.heap[c]? = some (.cells (wordsV ws) 109)
  len : ws.length = (n + 63) / 64
  small : ∀ x, x ∈ ws → x < 18446744073709551616
  bound : n ≤ 4096

theorem made_words (m : Nat) : madeCells #[Value.int .u64 0] m = wordsV (List.replicate m 0) := by
  apply Array.ext
  · simp [madeCells, wordsV]
  · intro i h1 h2
    have h0 : i % 1 = 0 := by omega
    simp [madeCells, wordsV, h0]

theorem new_ok (n : Nat) (hn : n ≤ 4096) (w : World) : Calls Tryz.prog 53 #[.int .i64 n] w fun e w' => e = .returned (.tuple #[.pointer (some ⟨w.heap.size + 1, 0, none⟩), .int .i64 0]) ∧ w' = (w.alloc (.cells (wordsV (List.replicate ((n + 63) / 64) 0)) 109)).alloc (.cells #[.bool true, .int .i64 n, .slice (some ⟨w.heap.size, 0, none⟩) ((n + 63) / 64) ((n + 63) / 64)] 108) := by
  have hmk := run_make_row' (P := Tryz.prog) 105 109 (.int .u64 0) 8 Tryz.underlying105 Tryz.info68 rfl .i64 .i64 ((n + 63) / 64) (by omega) (by omega)
  have h0 : (0 : Int) ≤ n := by omega
  have h1 : (n : Int) ≤ 4096 := by omega
  have e1 : (((n + 63) / 64 : Nat) : Int) = ((n : Int) + 64 - 1) / 64 := by omega
  have hm : (n + 63) / 64 ≤ 4096 := by omega
  rw [e1, made_words] at hmk
  clear e1
  generalize (n + 63) / 64 = m at *
  go_enter Tryz.func53, Tryz.ntmps53
  go_wp2_with (go_at_call 66; refine (cut_any _ _ _ hm).mono ?_; rintro e w' ⟨rfl, rfl⟩)
  go_ret2
  exact ⟨rfl, rfl⟩
theorem new_no (n : Int) (hn : n < 0 ∨ 4096 < n) (w : World) : Calls Tryz.prog 53 #[.int .i64 n] w fun e w' => e = .returned (.tuple #[.pointer none, .int .i64 1]) ∧ w = w' := by
  rcases hn with h | h
  · go_enter Tryz.func53, Tryz.ntmps53
    go_wp2
    go_ret2
    exact ⟨rfl, rfl⟩
  · have h0 : ¬ n < 0 := by omega
    go_enter Tryz.func53, Tryz.ntmps53
    go_wp2
    go_ret2
    exact ⟨rfl, rfl⟩

theorem new_set (n : Nat) (hn : n ≤ 4096) (w : World) : Calls Tryz.prog 53 #[.int .i64 n] w fun e w' => e = .returned (.tuple #[.pointer (some ⟨w.heap.size + 1, 0, none⟩), .int .i64 0]) ∧ SetAt w' (w.heap.size + 1) n w.heap.size (List.replicate ((n + 63) / 64) 0) ∧ Below w.heap.size w w' ∧ w'.heap.size = w.heap.size + 2 := by
  refine (new_ok n hn w).mono ?_
  rintro e w' ⟨rfl, rfl⟩
  refine ⟨rfl, ⟨?_, ?_, by simp, ?_, hn⟩, ((below_box w _).alloc (by simp) _), by simp⟩
  · rw [List.length_replicate]
    have := heap_alloc_new (w.alloc (.cells (wordsV (List.replicate ((n + 63) / 64) 0)) 109)) (.cells #[.bool true, .int .i64 n, .slice (some ⟨w.heap.size, 0, none⟩) ((n + 63) / 64) ((n + 63) / 64)] 108)
    simpa using this
  · rw [Lib.alloc_old _ _ w.heap.size (by simp)]
    exact heap_alloc_new w _
  · intro x hx
    rw [List.mem_replicate] at hx
    omega
end Go.Proofs.YtdihbeffomibeaaGreatDoor
namespace Go.Proofs.YtdihbeffomibeaaGreatDoor
set_option linter.unusedVariables false
set_option linter.unusedSimpArgs false
open Go.RowKit

theorem quietly {P : Program} {f : FuncId} {args : Array Value} {w : World} {n : Nat} {v : Value} (h : Calls P f args (w.drewN n) fun e w' => e = .returned v ∧ w.drewN n = w') : Calls P f args (w.drewN n) fun e w'' => e = .returned v ∧ ∃ m, w'' = w.drewN m :=
  h.mono fun _ _ ⟨he, hm⟩ => ⟨he, n, hm.symm⟩
theorem NoSet.drewN {w : World} {v : Value} (h : NoSet w v) (n : Nat) : NoSet (w.drewN n) v := h.later (below_drewN (Below.refl _ _) n)
theorem cell_drewN (w : World) (n : Nat) (p : Addr) : (w.drewN n).cell? p = w.cell? p := rfl
end Go.Proofs.YtdihbeffomibeaaGreatDoor
namespace Go.Proofs.YtdihbeffomibeaaGreatDoor.Pop
/-- How many numbers below n fit. -/
def cnt (f : Nat → Bool) : Nat → Nat
  | 0 => 0
  | n + 1 => cnt f n + (f n).toNat

theorem cnt_add (f : Nat → Bool) (m n : Nat) : cnt f (m + n) = cnt f m + cnt (fun i => f (m + i)) n := by
  induction n with
  | zero => rfl
  | succ n ih => rw [← Nat.add_assoc]; simp only [cnt]; rw [ih]; omega
theorem cnt_congr (f g : Nat → Bool) (n : Nat) (h : ∀ i, i < n → f i = g i) : cnt f n = cnt g n := by
  induction n with
  | zero => rfl
  | succ n ih => simp only [cnt]; rw [ih (fun i hi => h i (by omega)), h n (by omega)]
theorem cnt_le (f : Nat → Bool) (n : Nat) : cnt f n ≤ n := by
  induction n with
  | zero => exact Nat.le_refl _
  | succ n ih => simp only [cnt]; have : (f n).toNat ≤ 1 := by cases f n <;> decide
                 omega

theorem split_bit (a b j : Nat) (hb : b < 256) : (256 * a + b).testBit j = if j < 8 then b.testBit j else a.testBit (j - 8) :=
  Nat.testBit_two_pow_mul_add (i := 8) a hb j
theorem and_split (a b c d : Nat) (hb : b < 256) (hd : d < 256) : (256 * a + b) &&& (256 * c + d) = 256 * (a &&& c) + (b &&& d) := by
  have hbd : b &&& d < 256 := Nat.lt_of_le_of_lt Nat.and_le_left hb
  apply Nat.eq_of_testBit_eq
  intro j
  rw [Nat.testBit_and, split_bit a b j hb, split_bit c d j hd, split_bit _ _ j hbd]
  split <;> simp [Nat.testBit_and]
theorem cnt_split (a b m : Nat) (hb : b < 256) : cnt (256 * a + b).testBit (8 + m) = cnt b.testBit 8 + cnt a.testBit m := by
  rw [cnt_add]
  congr 1
  · exact cnt_congr _ _ _ fun i hi => by rw [split_bit a b i hb, if_pos hi]
  · exact cnt_congr _ _ _ fun i hi => by rw [split_bit a b (8 + i) hb, if_neg (by omega)]; congr 1; omega

/-- A mask of k bytes. -/
def mask (c : Nat) : Nat → Nat
  | 0 => 0
  | k + 1 => 256 * mask c k + c

def S1 (k x : Nat) : Nat := (x / 2 &&& mask 85 k) + (x &&& mask 85 k)
def S2 (k x : Nat) : Nat := (x / 4 &&& mask 51 k) + (x &&& mask 51 k)
def S3 (k x : Nat) : Nat := (x / 16 + x) &&& mask 15 k

set_option maxRecDepth 100000 in
theorem b1 : ∀ b, b < 256 → ∀ t, t < 2 → (128 * t + b / 2) &&& 85 = b / 2 &&& 85 := by decide +kernel
set_option maxRecDepth 100000 in
theorem b2 : ∀ b, b < 256 → ∀ t, t < 4 → (64 * t + b / 4) &&& 51 = b / 4 &&& 51 := by decide +kernel

theorem S1_step (k a b : Nat) (hb : b < 256) : S1 (k + 1) (256 * a + b) = 256 * S1 k a + ((b / 2 &&& 85) + (b &&& 85)) := by
  have hm : mask 85 (k + 1) = 256 * mask 85 k + 85 := rfl
  unfold S1
  rw [hm]
  have e : (256 * a + b) / 2 = 256 * (a / 2) + (128 * (a % 2) + b / 2) := by omega
  rw [e, and_split _ _ _ _ (by omega) (by decide), and_split _ _ _ _ hb (by decide), b1 b hb (a % 2) (by omega)]
  omega
theorem S2_step (k a b : Nat) (hb : b < 256) : S2 (k + 1) (256 * a + b) = 256 * S2 k a + ((b / 4 &&& 51) + (b &&& 51)) := by
  have hm : mask 51 (k + 1) = 256 * mask 51 k + 51 := rfl
  unfold S2
  rw [hm]
  have e : (256 * a + b) / 4 = 256 * (a / 4) + (64 * (a % 4) + b / 4) := by omega
  rw [e, and_split _ _ _ _ (by omega) (by decide), and_split _ _ _ _ hb (by decide), b2 b hb (a % 4) (by omega)]
  omega
theorem S3_step (k a b : Nat) (ha : a % 16 ≤ 4) (h1 : b % 16 ≤ 4) (h2 : b / 16 ≤ 4) : S3 (k + 1) (256 * a + b) = 256 * S3 k a + (b / 16 + b % 16) := by
  have hm : mask 15 (k + 1) = 256 * mask 15 k + 15 := rfl
  unfold S3
  rw [hm]
  have e : (256 * a + b) / 16 + (256 * a + b) = 256 * (a / 16 + a) + (16 * (a % 16 + b / 16) + (b / 16 + b % 16)) := by omega
  rw [e, and_split _ _ _ _ (by omega) (by decide)]
  have e2 : 16 * (a % 16 + b / 16) + (b / 16 + b % 16) &&& 15 = b / 16 + b % 16 := by
    rw [show (15 : Nat) = 2 ^ 4 - 1 from rfl, Nat.and_two_pow_sub_one_eq_mod]; omega
  rw [e2]

def y1 (b : Nat) : Nat := (b / 2 &&& 85) + (b &&& 85)
def y2 (b : Nat) : Nat := (y1 b / 4 &&& 51) + (y1 b &&& 51)
set_option maxRecDepth 100000 in
theorem y_facts : ∀ b, b < 256 → y1 b < 256 ∧ y2 b % 16 ≤ 4 ∧ y2 b / 16 ≤ 4 ∧ y2 b / 16 + y2 b % 16 = cnt b.testBit 8 := by decide +kernel

/-- The three first steps, of k bytes. -/
def T (k x : Nat) : Nat := S3 k (S2 k (S1 k x))
theorem S12 (k a b : Nat) (hb : b < 256) : S2 (k + 1) (S1 (k + 1) (256 * a + b)) = 256 * S2 k (S1 k a) + y2 b := by
  rw [S1_step k a b hb]
  exact S2_step k _ _ (y_facts b hb).1
theorem low4 (k a : Nat) : S2 k (S1 k a) % 16 ≤ 4 := by
  cases k with
  | zero => simp [S2, S1, mask]
  | succ k =>
    have e : a = 256 * (a / 256) + a % 256 := by omega
    have hb : a % 256 < 256 := by omega
    rw [e, S12 k _ _ hb]
    have := (y_facts _ hb).2.1
    omega
theorem T_step (k a b : Nat) (hb : b < 256) : T (k + 1) (256 * a + b) = 256 * T k a + cnt b.testBit 8 := by
  unfold T
  rw [S12 k a b hb, S3_step k _ _ (low4 k a) (y_facts b hb).2.1 (y_facts b hb).2.2.1, (y_facts b hb).2.2.2]

/-- The bytes of a word. -/
theorem bytes8 (x : Nat) (hx : x < 18446744073709551616) : ∃ a0 a1 a2 a3 a4 a5 a6 a7, a0 < 256 ∧ a1 < 256 ∧ a2 < 256 ∧ a3 < 256 ∧ a4 < 256 ∧ a5 < 256 ∧ a6 < 256 ∧ a7 < 256 ∧ x = 256 * (256 * (256 * (256 * (256 * (256 * (256 * (256 * 0 + a7) + a6) + a5) + a4) + a3) + a2) + a1) + a0 :=
  ⟨x % 256, x / 256 % 256, x / 256 / 256 % 256, x / 256 / 256 / 256 % 256, x / 256 / 256 / 256 / 256 % 256, x / 256 / 256 / 256 / 256 / 256 % 256, x / 256 / 256 / 256 / 256 / 256 / 256 % 256, x / 256 / 256 / 256 / 256 / 256 / 256 / 256 % 256, by omega, by omega, by omega, by omega, by omega, by omega, by omega, by omega, by omega⟩

theorem last (p0 p1 p2 p3 p4 p5 p6 p7 c : Nat) (h0 : p0 ≤ 8) (h1 : p1 ≤ 8) (h2 : p2 ≤ 8) (h3 : p3 ≤ 8) (h4 : p4 ≤ 8) (h5 : p5 ≤ 8) (h6 : p6 ≤ 8) (h7 : p7 ≤ 8)
    (hc : c = 256 * (256 * (256 * (256 * (256 * (256 * (256 * (256 * 0 + p7) + p6) + p5) + p4) + p3) + p2) + p1) + p0) :
    c < 18446744073709551616 / 8 ∧ ∃ d e, d = c + c / 256 ∧ d < 18446744073709551616 / 4 ∧ e = d + d / 65536 ∧ e < 18446744073709551616 / 2 ∧ e + e / 4294967296 < 9223372036854775808 ∧ (e + e / 4294967296) % 128 = p0 + p1 + p2 + p3 + p4 + p5 + p6 + p7 := by
  refine ⟨by omega, _, _, rfl, by omega, rfl, by omega, by omega, ?_⟩
  have hd : c + c / 256 = 256 * (256 * (256 * (256 * (256 * (256 * (256 * p7 + (p7 + p6)) + (p6 + p5)) + (p5 + p4)) + (p4 + p3)) + (p3 + p2)) + (p2 + p1)) + (p1 + p0) := by omega
  rw [hd]
  clear hd hc
  have he : (256 * (256 * (256 * (256 * (256 * (256 * (256 * p7 + (p7 + p6)) + (p6 + p5)) + (p5 + p4)) + (p4 + p3)) + (p3 + p2)) + (p2 + p1)) + (p1 + p0)) / 65536 = (256 * (256 * (256 * (256 * (256 * p7 + (p7 + p6)) + (p6 + p5)) + (p5 + p4)) + (p4 + p3)) + (p3 + p2)) := by omega
  rw [he]
  clear he
  have hf : (256 * (256 * (256 * (256 * (256 * (256 * (256 * p7 + (p7 + p6)) + (p6 + p5)) + (p5 + p4)) + (p4 + p3)) + (p3 + p2)) + (p2 + p1)) + (p1 + p0) + (256 * (256 * (256 * (256 * (256 * p7 + (p7 + p6)) + (p6 + p5)) + (p5 + p4)) + (p4 + p3)) + (p3 + p2))) / 4294967296 = 256 * (256 * (256 * p7 + (p7 + p6)) + (p6 + p5 + p7)) + (p5 + p4 + (p7 + p6)) := by omega
  rw [hf]
  omega

theorem mask85 : mask 85 8 = 6148914691236517205 := by decide
theorem mask51 : mask 51 8 = 3689348814741910323 := by decide
theorem mask15 : mask 15 8 = 1085102592571150095 := by decide


theorem T8 (a0 a1 a2 a3 a4 a5 a6 a7 : Nat) (h0 : a0 < 256) (h1 : a1 < 256) (h2 : a2 < 256) (h3 : a3 < 256) (h4 : a4 < 256) (h5 : a5 < 256) (h6 : a6 < 256) (h7 : a7 < 256) :
    T 8 (256 * (256 * (256 * (256 * (256 * (256 * (256 * (256 * 0 + a7) + a6) + a5) + a4) + a3) + a2) + a1) + a0) = 256 * (256 * (256 * (256 * (256 * (256 * (256 * (256 * 0 + cnt a7.testBit 8) + cnt a6.testBit 8) + cnt a5.testBit 8) + cnt a4.testBit 8) + cnt a3.testBit 8) + cnt a2.testBit 8) + cnt a1.testBit 8) + cnt a0.testBit 8 := by
  have hz : T 0 0 = 0 := by simp [T, S1, S2, S3, mask]
  rw [T_step 7 _ a0 h0, T_step 6 _ a1 h1, T_step 5 _ a2 h2, T_step 4 _ a3 h3, T_step 3 _ a4 h4, T_step 2 _ a5 h5, T_step 1 _ a6 h6, T_step 0 _ a7 h7, hz]
theorem cnt64 (a0 a1 a2 a3 a4 a5 a6 a7 : Nat) (h0 : a0 < 256) (h1 : a1 < 256) (h2 : a2 < 256) (h3 : a3 < 256) (h4 : a4 < 256) (h5 : a5 < 256) (h6 : a6 < 256) (h7 : a7 < 256) :
    cnt (256 * (256 * (256 * (256 * (256 * (256 * (256 * (256 * 0 + a7) + a6) + a5) + a4) + a3) + a2) + a1) + a0).testBit (8 + (8 + (8 + (8 + (8 + (8 + (8 + (8 + 0)))))))) = cnt a0.testBit 8 + (cnt a1.testBit 8 + (cnt a2.testBit 8 + (cnt a3.testBit 8 + (cnt a4.testBit 8 + (cnt a5.testBit 8 + (cnt a6.testBit 8 + cnt a7.testBit 8)))))) := by
  rw [cnt_split _ a0 _ h0, cnt_split _ a1 _ h1, cnt_split _ a2 _ h2, cnt_split _ a3 _ h3, cnt_split _ a4 _ h4, cnt_split _ a5 _ h5, cnt_split _ a6 _ h6, cnt_split _ a7 _ h7]
  simp only [cnt, Nat.add_zero]

/-- math/bits.OnesCount64's reckoning. -/
theorem ones (x : Nat) (hx : x < 18446744073709551616) :
    T 8 x < 2305843009213693952 ∧ ∃ d e, d = T 8 x + T 8 x / 256 ∧ d < 4611686018427387904 ∧ e = d + d / 65536 ∧ e < 9223372036854775808 ∧ e + e / 4294967296 < 9223372036854775808 ∧ (e + e / 4294967296) % 128 = cnt x.testBit 64 := by
  obtain ⟨a0, a1, a2, a3, a4, a5, a6, a7, h0, h1, h2, h3, h4, h5, h6, h7, hxe⟩ := bytes8 x hx
  have ht := T8 a0 a1 a2 a3 a4 a5 a6 a7 h0 h1 h2 h3 h4 h5 h6 h7
  have hc := cnt64 a0 a1 a2 a3 a4 a5 a6 a7 h0 h1 h2 h3 h4 h5 h6 h7
  rw [← hxe] at ht hc
  have hc' : cnt x.testBit 64 = _ := hc
  rw [hc']
  clear hc hc' hxe h0 h1 h2 h3 h4 h5 h6 h7
  have L := last (cnt a0.testBit 8) (cnt a1.testBit 8) (cnt a2.testBit 8) (cnt a3.testBit 8) (cnt a4.testBit 8) (cnt a5.testBit 8) (cnt a6.testBit 8) (cnt a7.testBit 8) (T 8 x) (cnt_le _ _) (cnt_le _ _) (cnt_le _ _) (cnt_le _ _) (cnt_le _ _) (cnt_le _ _) (cnt_le _ _) (cnt_le _ _) ht
  clear ht
  generalize T 8 x = c at *
  generalize cnt a0.testBit 8 = p0 at *
  generalize cnt a1.testBit 8 = p1 at *
  generalize cnt a2.testBit 8 = p2 at *
  generalize cnt a3.testBit 8 = p3 at *
  generalize cnt a4.testBit 8 = p4 at *
  generalize cnt a5.testBit 8 = p5 at *
  generalize cnt a6.testBit 8 = p6 at *
  generalize cnt a7.testBit 8 = p7 at *
  obtain ⟨l1, d, e, l2, l3, l4, l5, l6, l7⟩ := L
  exact ⟨by omega, d, e, l2, by omega, l4, by omega, l6, by rw [l7]; omega⟩
end Go.Proofs.YtdihbeffomibeaaGreatDoor.Pop
namespace Go.Proofs.YtdihbeffomibeaaGreatDoor
set_option linter.unusedVariables false
set_option linter.unusedSimpArgs false
open Go.RowKit

/-- The bit i of words. -/
def bit (ws : List Nat) (i : Nat) : Bool := (ws.getD (i / 64) 0).testBit (i % 64)

theorem words_at (ws : List Nat) (j : Nat) : (wordsV ws)[j]? = ws[j]?.map fun x : Nat => Value.int .u64 x := by
  simp [wordsV]
theorem words_set (ws : List Nat) (j x : Nat) : (wordsV ws).setIfInBounds j (.int .u64 x) = wordsV (ws.set j x) := by
  unfold wordsV
  rw [List.map_set]
  simp
theorem SetAt.c0 {w : World} {b n c : Nat} {ws : List Nat} (h : SetAt w b n c ws) : w.cell? ⟨b, 0, none⟩ = some (.bool true) := Lib.cell_of_heap h.box 0
theorem SetAt.c1 {w : World} {b n c : Nat} {ws : List Nat} (h : SetAt w b n c ws) : w.cell? ⟨b, 1, none⟩ = some (.int .i64 n) := Lib.cell_of_heap h.box 1
theorem SetAt.c2 {w : World} {b n c : Nat} {ws : List Nat} (h : SetAt w b n c ws) : w.cell? ⟨b, 2, none⟩ = some (.slice (some ⟨c, 0, none⟩) ws.length ws.length) := Lib.cell_of_heap h.box 2
theorem SetAt.word {w : World} {b n c : Nat} {ws : List Nat} (h : SetAt w b n c ws) (j : Nat) (hj : j < ws.length) : w.cell? ⟨c, j, none⟩ = some (.int .u64 (ws.getD j 0 : Nat)) := by
  rw [Lib.cell_of_heap h.row j, words_at, List.getElem?_eq_getElem hj, List.getD_eq_getElem?_getD, List.getElem?_eq_getElem hj]
  rfl
theorem SetAt.free {w : World} {b n c : Nat} {ws : List Nat} (h : SetAt w b n c ws) (j : Nat) : w.frozen? ⟨c, j, none⟩ = false := Lib.frozen_of_heap h.row j
theorem SetAt.lt {w : World} {b n c : Nat} {ws : List Nat} (h : SetAt w b n c ws) (j : Nat) : ws.getD j 0 < 18446744073709551616 := by
  by_cases hj : j < ws.length
  · rw [List.getD_eq_getElem?_getD, List.getElem?_eq_getElem hj]
    exact h.small _ (List.getElem_mem hj)
  · rw [List.getD_eq_getElem?_getD, List.getElem?_eq_none (by omega)]
    decide

theorem check_ok (b : Nat) (n i : Nat) (w : World) (c0 : w.cell? ⟨b, 0, none⟩ = some (.bool true)) (c1 : w.cell? ⟨b, 1, none⟩ = some (.int .i64 n)) (hi : i < n) : Calls Tryz.prog 67 #[.pointer (some ⟨b, 0, none⟩), .int .i64 i] w fun e w' => e = .returned (.int .i64 0) ∧ w = w' := by
  have h1 : (0 : Int) ≤ i := by omega
  have h2 : (i : Int) < n := by omega
  go_enter Tryz.func67, Tryz.ntmps67
  go_wp2_with (go_at_call 80; refine (isMade_at _ _ _ c0).mono ?_; rintro e w' ⟨rfl, rfl⟩)
  go_ret
  exact ⟨rfl, rfl⟩
theorem check_bad (b : Nat) (n : Nat) (i : Int) (w : World) (c0 : w.cell? ⟨b, 0, none⟩ = some (.bool true)) (c1 : w.cell? ⟨b, 1, none⟩ = some (.int .i64 n)) (hi : i < 0 ∨ (n : Int) ≤ i) : Calls Tryz.prog 67 #[.pointer (some ⟨b, 0, none⟩), .int .i64 i] w fun e w' => e = .returned (.int .i64 1) ∧ w = w' := by
  rcases hi with h | h
  · go_enter Tryz.func67, Tryz.ntmps67
    go_wp2_with (go_at_call 80; refine (isMade_at _ _ _ c0).mono ?_; rintro e w' ⟨rfl, rfl⟩)
    go_ret
    exact ⟨rfl, rfl⟩
  · have h1 : (0 : Int) ≤ i := by omega
    go_enter Tryz.func67, Tryz.ntmps67
    go_wp2_with (go_at_call 80; refine (isMade_at _ _ _ c0).mono ?_; rintro e w' ⟨rfl, rfl⟩)
    go_ret
    exact ⟨rfl, rfl⟩
theorem bound_at (b n c : Nat) (ws : List Nat) (w : World) (h : SetAt w b n c ws) : Calls Tryz.prog 75 #[.pointer (some ⟨b, 0, none⟩)] w fun e w' => e = .returned (.int .i64 n) ∧ w = w' := by
  have c0 := h.c0
  have c1 := h.c1
  clear h
  go_enter Tryz.func75, Tryz.ntmps75
  go_wp2_with (go_at_call 80; refine (isMade_at _ _ _ c0).mono ?_; rintro e w' ⟨rfl, rfl⟩)
  go_ret
  exact ⟨rfl, rfl⟩
theorem add_bad (b n c : Nat) (ws : List Nat) (i : Int) (w : World) (h : SetAt w b n c ws) (hi : i < 0 ∨ (n : Int) ≤ i) : Calls Tryz.prog 55 #[.pointer (some ⟨b, 0, none⟩), .int .i64 i] w fun e w' => e = .returned (.int .i64 1) ∧ w = w' := by
  have c0 := hid h.c0
  have c1 := hid h.c1
  have HI := hid hi
  clear h hi
  go_enter Tryz.func55, Tryz.ntmps55
  go_wp2_with (go_at_call 67; refine (check_bad _ _ _ _ c0.out c1.out HI.out).mono ?_; rintro e w' ⟨rfl, rfl⟩)
  go_ret
  exact ⟨rfl, rfl⟩
theorem has_bad (b n c : Nat) (ws : List Nat) (i : Int) (w : World) (h : SetAt w b n c ws) (hi : i < 0 ∨ (n : Int) ≤ i) : Calls Tryz.prog 64 #[.pointer (some ⟨b, 0, none⟩), .int .i64 i] w fun e w' => e = .returned (.bool false) ∧ w = w' := by
  have c0 := hid h.c0
  have c1 := hid h.c1
  have HI := hid hi
  clear h hi
  go_enter Tryz.func64, Tryz.ntmps64
  go_wp2_with (go_at_call 67; refine (check_bad _ _ _ _ c0.out c1.out HI.out).mono ?_; rintro e w' ⟨rfl, rfl⟩)
  go_ret
  exact ⟨rfl, rfl⟩
theorem ret_bool {a b : Bool} (h : a = b) : Ending.returned (.bool a) = .returned (.bool b) := by rw [h]
theorem ret_int {k : IntKind} {a b : Int} (h : a = b) : Ending.returned (.int k a) = .returned (.int k b) := by rw [h]
theorem has_bit (x k : Nat) (hx : x < 18446744073709551616) : (bits BinOp.and IntKind.u64 ((x : Int) / 2 ^ k) 1 == 1) = x.testBit k := by
  have e : (x : Int) / 2 ^ k = ((x / 2 ^ k : Nat) : Int) := by simp
  have hle : x / 2 ^ k ≤ x := Nat.div_le_self _ _
  rw [e, show (1 : Int) = ((1 : Nat) : Int) from rfl, u64_and_nat _ _ (by omega) (by decide), nat_mask1, Nat.testBit_eq_decide_div_mod_eq]
  rw [Bool.eq_iff_iff]
  simp
  omega
set_option maxHeartbeats 1000000 in
theorem has_ok (b n c : Nat) (ws : List Nat) (i : Nat) (w : World) (h : SetAt w b n c ws) (hi : i < n) : Calls Tryz.prog 64 #[.pointer (some ⟨b, 0, none⟩), .int .i64 i] w fun e w' => e = .returned (.bool (bit ws i)) ∧ w = w' := by
  have c0 := h.c0
  have c1 := h.c1
  have c2 := h.c2
  have hl := h.len
  have hj : i / 64 < ws.length := by omega
  have cw := h.word (i / 64) hj
  have hx := h.lt (i / 64)
  have hbd := h.bound
  have hix : (i : Int) ≤ 4096 := by omega
  have hi0 : (0 : Int) ≤ i := by omega
  unfold bit
  clear h
  generalize ws.getD (i / 64) 0 = x at *
  generalize ws.length = m at *
  go_enter Tryz.func64, Tryz.ntmps64
  go_wp2_with (go_at_call 67; refine (check_ok _ _ _ _ c0 c1 hi).mono ?_; rintro e w' ⟨rfl, rfl⟩)
  go_ret
  exact ⟨ret_bool (has_bit x _ hx), rfl⟩
theorem shl_lt (k : Nat) (hk : k < 64) : 2 ^ k < 18446744073709551616 := Nat.pow_lt_pow_of_lt (a := 2) (n := k) (m := 64) (by decide) hk
theorem shl_word (k : Nat) (hk : k < 64) : IntKind.u64.wrap (2 ^ k) = ((2 ^ k : Nat) : Int) := by
  rw [IntKind.wrap_u64, show (2 : Int) ^ k = ((2 ^ k : Nat) : Int) by simp]
  have := shl_lt k hk
  generalize (2 ^ k : Nat) = y at *
  omega
theorem or_word (x k : Nat) (hx : x < 18446744073709551616) (hk : k < 64) : bits BinOp.or IntKind.u64 (x : Int) (IntKind.u64.wrap (2 ^ k)) = ((x ||| 2 ^ k : Nat) : Int) := by
  rw [shl_word k hk, u64_or_nat _ _ hx (shl_lt k hk)]
theorem andNot_word (x k : Nat) (hx : x < 18446744073709551616) (hk : k < 64) : bits BinOp.andNot IntKind.u64 (x : Int) (IntKind.u64.wrap (2 ^ k)) = ((x &&& (18446744073709551615 - 2 ^ k) : Nat) : Int) := by
  rw [shl_word k hk, u64_andNot_nat _ _ hx (shl_lt k hk)]
set_option maxHeartbeats 1000000 in
theorem add_raw (b n c : Nat) (ws : List Nat) (i : Nat) (w : World) (h : SetAt w b n c ws) (hi : i < n) : Calls Tryz.prog 55 #[.pointer (some ⟨b, 0, none⟩), .int .i64 i] w fun e w' => e = .returned (.int .i64 0) ∧ ∃ q, w' = (w.setCell ⟨c, i / 64, none⟩ (.int .u64 (ws.getD (i / 64) 0 ||| 2 ^ (i % 64) : Nat))).drewN q := by
  have c0 := h.c0
  have c1 := h.c1
  have c2 := h.c2
  have hl := h.len
  have hj : i / 64 < ws.length := by omega
  have cw := h.word (i / 64) hj
  have hf := h.free (i / 64)
  have hx := h.lt (i / 64)
  have hbd := h.bound
  have hix : (i : Int) ≤ 4096 := by omega
  have hi0 : (0 : Int) ≤ i := by omega
  clear h
  generalize ws.getD (i / 64) 0 = x at *
  generalize ws.length = m at *
  go_enter Tryz.func55, Tryz.ntmps55
  go_wp2_with (go_at_call 67; refine (check_ok _ _ _ _ c0 c1 hi).mono ?_; rintro e w' ⟨rfl, rfl⟩)
  go_region
  go_wp2
  rw [or_word x _ hx (by omega)]
  go_ret
  exact ⟨rfl, 1, rfl⟩
end Go.Proofs.YtdihbeffomibeaaGreatDoor
namespace Go.Proofs.YtdihbeffomibeaaGreatDoor
set_option linter.unusedVariables false
set_option linter.unusedSimpArgs false
open Go.RowKit

theorem bit_set (ws : List Nat) (j x i : Nat) (hj : j < ws.length) : bit (ws.set j x) i = if i / 64 = j then x.testBit (i % 64) else bit ws i := by
  unfold bit
  rw [List.getD_eq_getElem?_getD, List.getD_eq_getElem?_getD, List.getElem?_set]
  by_cases h : i / 64 = j
  · subst h
    simp [hj]
  · rw [if_neg (fun e => h e.symm), if_neg h]
theorem bit_add (ws : List Nat) (i k : Nat) (hj : i / 64 < ws.length) : bit (ws.set (i / 64) (ws.getD (i / 64) 0 ||| 2 ^ (i % 64))) k = (k == i || bit ws k) := by
  rw [bit_set _ _ _ _ hj]
  by_cases h : k / 64 = i / 64
  · rw [if_pos h, Nat.testBit_or, Nat.testBit_two_pow]
    have e : bit ws k = (ws.getD (i / 64) 0).testBit (k % 64) := by unfold bit; rw [h]
    rw [e, Bool.or_comm]
    congr 1
    rw [Bool.eq_iff_iff]
    simp
    omega
  · rw [if_neg h]
    have : (k == i) = false := by simp; intro e; exact h (by rw [e])
    rw [this, Bool.false_or]
theorem bit_drop (ws : List Nat) (i k : Nat) (hj : i / 64 < ws.length) : bit (ws.set (i / 64) (ws.getD (i / 64) 0 &&& (18446744073709551615 - 2 ^ (i % 64)))) k = (!(k == i) && bit ws k) := by
  rw [bit_set _ _ _ _ hj]
  by_cases h : k / 64 = i / 64
  · have hl : 2 ^ (i % 64) < 2 ^ 64 := shl_lt (i % 64) (by omega)
    have e2 : 18446744073709551615 - 2 ^ (i % 64) = 2 ^ 64 - (2 ^ (i % 64) + 1) := by
      generalize (2 ^ (i % 64) : Nat) = y at *
      omega
    rw [if_pos h, Nat.testBit_and, e2, Nat.testBit_two_pow_sub_succ hl, Nat.testBit_two_pow]
    have e : bit ws k = (ws.getD (i / 64) 0).testBit (k % 64) := by unfold bit; rw [h]
    rw [e, Bool.and_comm]
    congr 1
    rw [Bool.eq_iff_iff]
    simp
    omega
  · rw [if_neg h]
    have : (k == i) = false := by simp; intro e; exact h (by rw [e])
    rw [this]
    rfl

/-- w' is w but for the block bx and new ones. -/
structure Beside (bx : Nat) (w w' : World) : Prop where
  os : w'.os = w.os
  tape : w'.tape = w.tape
  output : w'.output = w.output
  size : w.heap.size ≤ w'.heap.size
  block : ∀ k, k < w.heap.size → k ≠ bx → w'.heap[k]? = w.heap[k]?
theorem Beside.refl (bx : Nat) (w : World) : Beside bx w w := ⟨rfl, rfl, rfl, Nat.le_refl _, fun _ _ _ => rfl⟩
theorem Beside.of_below {bx : Nat} {w w' : World} (h : Below w.heap.size w w') : Beside bx w w' := ⟨h.os, h.tape, h.output, h.size, fun k hk _ => h.block k hk⟩
theorem Beside.trans {bx : Nat} {w w1 w2 : World} (h1 : Beside bx w w1) (h2 : Beside bx w1 w2) : Beside bx w w2 :=
  ⟨h2.os.trans h1.os, h2.tape.trans h1.tape, h2.output.trans h1.output, Nat.le_trans h1.size h2.size, fun k hk hn => (h2.block k (Nat.lt_of_lt_of_le hk h1.size) hn).trans (h1.block k hk hn)⟩
theorem Beside.below {bx B : Nat} {w w' : World} (h : Beside bx w w') (hb : B ≤ bx) (hs : B ≤ w.heap.size) : Below B w w' := ⟨h.os, h.tape, h.output, h.size, fun k hk => h.block k (by omega) (by omega)⟩
theorem Beside.setCell {bx : Nat} {w w' : World} (h : Beside bx w w') {p : Addr} (hp : p.block = bx) (v : Value) : Beside bx w (w'.setCell p v) := by
  have hb : Below bx w' (w'.setCell p v) := (Below.refl bx w').setCell (p := p) (by omega) v
  refine ⟨hb.os.trans h.os, hb.tape.trans h.tape, hb.output.trans h.output, Nat.le_trans h.size hb.size, fun k hk hn => ?_⟩
  refine Eq.trans ?_ (h.block k hk hn)
  simp only [World.setCell, Array.getElem?_modify]
  rw [if_neg (by omega)]
theorem Beside.drewN {bx : Nat} {w w' : World} (h : Beside bx w w') (q : Nat) : Beside bx w (w'.drewN q) := ⟨h.os, h.tape, h.output, h.size, h.block⟩

theorem blt {w : World} {b : Nat} {o : Obj} (h : w.heap[b]? = some o) : b < w.heap.size := by
  rcases Nat.lt_or_ge b w.heap.size with h1 | h1
  · exact h1
  · rw [Array.getElem?_eq_none h1] at h
    cases h
theorem SetAt.ne {w : World} {b n c : Nat} {ws : List Nat} (h : SetAt w b n c ws) : b ≠ c := by
  rintro rfl
  have e := h.box.symm.trans h.row
  injection e with e
  injection e with e
  have e0 : (wordsV ws)[0]? = some (.bool true) := by rw [← e]; rfl
  rw [words_at] at e0
  cases hz : ws[0]? with
  | none => rw [hz] at e0; cases e0
  | some x => rw [hz] at e0; simp at e0
theorem SetAt.later {w w' : World} {b n c : Nat} {ws : List Nat} (h : SetAt w b n c ws) (hb : Below w.heap.size w w') : SetAt w' b n c ws :=
  ⟨(hb.block b (blt h.box)).trans h.box, (hb.block c (blt h.row)).trans h.row, h.len, h.small, h.bound⟩
theorem SetAt.beside {w w' : World} {b n c c' : Nat} {ws : List Nat} (h : SetAt w b n c ws) (hb : Beside c' w w') (h1 : b ≠ c') (h2 : c ≠ c') : SetAt w' b n c ws :=
  ⟨(hb.block b (blt h.box) h1).trans h.box, (hb.block c (blt h.row) h2).trans h.row, h.len, h.small, h.bound⟩
theorem SetAt.put {w : World} {b n c : Nat} {ws : List Nat} (h : SetAt w b n c ws) (j x : Nat) (hx : x < 18446744073709551616) : SetAt (w.setCell ⟨c, j, none⟩ (.int .u64 x)) b n c (ws.set j x) := by
  refine ⟨?_, ?_, by rw [List.length_set]; exact h.len, ?_, h.bound⟩
  · rw [List.length_set, Below.heap_setCell _ _ _ _ h.ne]
    exact h.box
  · rw [Go.Joins.block_setCell h.row, words_set]
  · intro y hy
    rcases List.mem_or_eq_of_mem_set hy with h1 | h1
    · exact h.small y h1
    · omega

/-- A set of the numbers below n that f tells, in block b, its words in block c. -/
structure Is (w : World) (b n c : Nat) (f : Nat → Bool) : Prop where
  ex : ∃ ws, SetAt w b n c ws ∧ ∀ i, bit ws i = f i
  top : ∀ i, n ≤ i → f i = false
theorem Is.later {w w' : World} {b n c : Nat} {f : Nat → Bool} (h : Is w b n c f) (hb : Below w.heap.size w w') : Is w' b n c f := by
  obtain ⟨ws, h1, h2⟩ := h.ex
  exact ⟨⟨ws, h1.later hb, h2⟩, h.top⟩
theorem Is.beside {w w' : World} {b n c c' : Nat} {f : Nat → Bool} (h : Is w b n c f) (hb : Beside c' w w') (n1 : b ≠ c') (n2 : c ≠ c') : Is w' b n c f := by
  obtain ⟨ws, h1, h2⟩ := h.ex
  exact ⟨⟨ws, h1.beside hb n1 n2, h2⟩, h.top⟩
theorem Is.drewN {w : World} {b n c : Nat} {f : Nat → Bool} (h : Is w b n c f) (q : Nat) : Is (w.drewN q) b n c f := h.later (below_drewN (Below.refl _ _) q)
theorem Is.ne {w : World} {b n c : Nat} {f : Nat → Bool} (h : Is w b n c f) : b ≠ c := by
  obtain ⟨ws, h1, h2⟩ := h.ex
  exact h1.ne
theorem Is.bound {w : World} {b n c : Nat} {f : Nat → Bool} (h : Is w b n c f) : n ≤ 4096 := by
  obtain ⟨ws, h1, h2⟩ := h.ex
  exact h1.bound
theorem Is.blt {w : World} {b n c : Nat} {f : Nat → Bool} (h : Is w b n c f) : b < w.heap.size ∧ c < w.heap.size := by
  obtain ⟨ws, h1, h2⟩ := h.ex
  exact ⟨Go.Proofs.YtdihbeffomibeaaGreatDoor.blt h1.box, Go.Proofs.YtdihbeffomibeaaGreatDoor.blt h1.row⟩

theorem bit_none (m i : Nat) : bit (List.replicate m 0) i = false := by
  unfold bit
  rw [List.getD_eq_getElem?_getD, List.getElem?_replicate]
  split <;> simp
theorem new_is (n : Nat) (hn : n ≤ 4096) (w : World) : Calls Tryz.prog 53 #[.int .i64 n] w fun e w' => e = .returned (.tuple #[.pointer (some ⟨w.heap.size + 1, 0, none⟩), .int .i64 0]) ∧ Is w' (w.heap.size + 1) n w.heap.size (fun _ => false) ∧ Below w.heap.size w w' ∧ w'.heap.size = w.heap.size + 2 := by
  refine (new_set n hn w).mono ?_
  rintro e w' ⟨rfl, h, hb, hs⟩
  exact ⟨rfl, ⟨⟨_, h, fun i => bit_none _ i⟩, fun _ _ => rfl⟩, hb, hs⟩
theorem add_is (b n c : Nat) (f : Nat → Bool) (i : Nat) (w : World) (h : Is w b n c f) (hi : i < n) : Calls Tryz.prog 55 #[.pointer (some ⟨b, 0, none⟩), .int .i64 i] w fun e w' => e = .returned (.int .i64 0) ∧ Is w' b n c (fun k => k == i || f k) ∧ Beside c w w' ∧ w'.heap.size = w.heap.size := by
  obtain ⟨ws, h1, h2⟩ := h.ex
  have hl := h1.len
  have hx : ws.getD (i / 64) 0 ||| 2 ^ (i % 64) < 18446744073709551616 := Nat.or_lt_two_pow (n := 64) (h1.lt _) (shl_lt _ (by omega))
  refine (add_raw b n c ws i w h1 hi).mono ?_
  rintro e w' ⟨rfl, q, rfl⟩
  refine ⟨rfl, ⟨⟨_, (h1.put (i / 64) _ hx).later (below_drewN (Below.refl _ _) q), fun k => ?_⟩, fun k hk => ?_⟩, ((Beside.refl c w).setCell rfl _).drewN q, by simp [World.drewN, World.setCell]⟩
  · rw [bit_add ws i k (by omega), h2]
  · have : (k == i) = false := by simp; omega
    simp [this, h.top k hk]
theorem has_is (b n c : Nat) (f : Nat → Bool) (i : Nat) (w : World) (h : Is w b n c f) (hi : i < n) : Calls Tryz.prog 64 #[.pointer (some ⟨b, 0, none⟩), .int .i64 i] w fun e w' => e = .returned (.bool (f i)) ∧ w = w' := by
  obtain ⟨ws, h1, h2⟩ := h.ex
  rw [← h2]
  exact has_ok b n c ws i w h1 hi
theorem has_off (b n c : Nat) (f : Nat → Bool) (i : Int) (w : World) (h : Is w b n c f) (hi : i < 0 ∨ (n : Int) ≤ i) : Calls Tryz.prog 64 #[.pointer (some ⟨b, 0, none⟩), .int .i64 i] w fun e w' => e = .returned (.bool false) ∧ w = w' := by
  obtain ⟨ws, h1, h2⟩ := h.ex
  exact has_bad b n c ws i w h1 hi
theorem add_off (b n c : Nat) (f : Nat → Bool) (i : Int) (w : World) (h : Is w b n c f) (hi : i < 0 ∨ (n : Int) ≤ i) : Calls Tryz.prog 55 #[.pointer (some ⟨b, 0, none⟩), .int .i64 i] w fun e w' => e = .returned (.int .i64 1) ∧ w = w' := by
  obtain ⟨ws, h1, h2⟩ := h.ex
  exact add_bad b n c ws i w h1 hi
theorem bound_is (b n c : Nat) (f : Nat → Bool) (w : World) (h : Is w b n c f) : Calls Tryz.prog 75 #[.pointer (some ⟨b, 0, none⟩)] w fun e w' => e = .returned (.int .i64 n) ∧ w = w' := by
  obtain ⟨ws, h1, h2⟩ := h.ex
  exact bound_at b n c ws w h1
end Go.Proofs.YtdihbeffomibeaaGreatDoor
namespace Go.Proofs.YtdihbeffomibeaaGreatDoor
set_option linter.unusedVariables false
set_option linter.unusedSimpArgs false
open Go.RowKit

theorem wrap_nat (a : Nat) (h : a < 18446744073709551616) : IntKind.u64.wrap (a : Int) = (a : Int) := by rw [IntKind.wrap_u64]; omega
/-- The reckoning's steps, in the walk's spelling. -/
theorem ones_steps (x : Nat) (hx : x < 18446744073709551616) : ∃ a b c d e f : Nat,
    IntKind.u64.wrap (bits BinOp.and IntKind.u64 ((x : Int) / 2) 6148914691236517205 + bits BinOp.and IntKind.u64 (x : Int) 6148914691236517205) = (a : Int) ∧
    IntKind.u64.wrap (bits BinOp.and IntKind.u64 ((a : Int) / 4) 3689348814741910323 + bits BinOp.and IntKind.u64 (a : Int) 3689348814741910323) = (b : Int) ∧
    bits BinOp.and IntKind.u64 (IntKind.u64.wrap ((b : Int) / 16 + (b : Int))) 1085102592571150095 = (c : Int) ∧
    IntKind.u64.wrap ((c : Int) + (c : Int) / 256) = (d : Int) ∧ IntKind.u64.wrap ((d : Int) + (d : Int) / 65536) = (e : Int) ∧ IntKind.u64.wrap ((e : Int) + (e : Int) / 4294967296) = (f : Int) ∧
    f < 9223372036854775808 ∧ bits BinOp.and IntKind.i64 (f : Int) 127 = (Pop.cnt x.testBit 64 : Int) := by
  obtain ⟨hT, d, e, hd, hdl, he, hel, hfl, hf⟩ := Pop.ones x hx
  have hS : Pop.T 8 x = Pop.S3 8 (Pop.S2 8 (Pop.S1 8 x)) := rfl
  have a1 : x / 2 &&& 6148914691236517205 ≤ 6148914691236517205 := Nat.and_le_right
  have a2 : x &&& 6148914691236517205 ≤ 6148914691236517205 := Nat.and_le_right
  have ea : Pop.S1 8 x = (x / 2 &&& 6148914691236517205) + (x &&& 6148914691236517205) := by unfold Pop.S1; rw [Pop.mask85]
  generalize Pop.S1 8 x = a at *
  have b1 : a / 4 &&& 3689348814741910323 ≤ 3689348814741910323 := Nat.and_le_right
  have b2 : a &&& 3689348814741910323 ≤ 3689348814741910323 := Nat.and_le_right
  have eb : Pop.S2 8 a = (a / 4 &&& 3689348814741910323) + (a &&& 3689348814741910323) := by unfold Pop.S2; rw [Pop.mask51]
  generalize Pop.S2 8 a = b at *
  have ec : Pop.S3 8 b = (b / 16 + b) &&& 1085102592571150095 := by unfold Pop.S3; rw [Pop.mask15]
  rw [← hS] at ec
  generalize Pop.T 8 x = c at *
  clear hS
  refine ⟨a, b, c, d, e, e + e / 4294967296, ?_, ?_, ?_, ?_, ?_, ?_, hfl, ?_⟩
  · have h1 := u64_and_nat (x / 2) 6148914691236517205 (by omega) (by decide)
    have h2 := u64_and_nat x 6148914691236517205 hx (by decide)
    have h3 : (x : Int) / 2 = ((x / 2 : Nat) : Int) := by omega
    rw [h3]
    refine (congrArg IntKind.u64.wrap (congr (congrArg HAdd.hAdd h1) h2)).trans ?_
    rw [ea]
    exact wrap_nat _ (by omega)
  · have h1 := u64_and_nat (a / 4) 3689348814741910323 (by omega) (by decide)
    have h2 := u64_and_nat a 3689348814741910323 (by omega) (by decide)
    have h3 : (a : Int) / 4 = ((a / 4 : Nat) : Int) := by omega
    rw [h3]
    refine (congrArg IntKind.u64.wrap (congr (congrArg HAdd.hAdd h1) h2)).trans ?_
    rw [eb]
    exact wrap_nat _ (by omega)
  · have h3 : (b : Int) / 16 + (b : Int) = ((b / 16 + b : Nat) : Int) := by omega
    rw [h3, wrap_nat _ (by omega), ec]
    exact u64_and_nat (b / 16 + b) 1085102592571150095 (by omega) (by decide)
  · have h3 : (c : Int) + (c : Int) / 256 = ((c + c / 256 : Nat) : Int) := by omega
    rw [h3, hd]
    exact wrap_nat _ (by omega)
  · have h3 : (d : Int) + (d : Int) / 65536 = ((d + d / 65536 : Nat) : Int) := by omega
    rw [h3, he]
    exact wrap_nat _ (by omega)
  · have h3 : (e : Int) + (e : Int) / 4294967296 = ((e + e / 4294967296 : Nat) : Int) := by omega
    rw [h3]
    exact wrap_nat _ (by omega)
  · rw [← hf]
    generalize e + e / 4294967296 = f at *
    rw [i64_and127]
    omega
theorem cnt_words (ws : List Nat) (k : Nat) : Pop.cnt (bit ws) (64 * (k + 1)) = Pop.cnt (bit ws) (64 * k) + Pop.cnt (ws.getD k 0).testBit 64 := by
  rw [Nat.mul_add, Pop.cnt_add]
  congr 1
  apply Pop.cnt_congr
  intro i hi
  unfold bit
  have e1 : (64 * k + i) / 64 = k := by omega
  have e2 : (64 * k + i) % 64 = i := by omega
  rw [e1, e2]
theorem cnt_top (f : Nat → Bool) (n m : Nat) (h : n ≤ m) (ht : ∀ i, n ≤ i → f i = false) : Pop.cnt f m = Pop.cnt f n := by
  obtain ⟨k, rfl⟩ : ∃ k, m = n + k := ⟨m - n, by omega⟩
  rw [Pop.cnt_add]
  have : Pop.cnt (fun i => f (n + i)) k = 0 := by
    clear h
    induction k with
    | zero => rfl
    | succ k ih => unfold Pop.cnt; rw [ih, ht (n + k) (by omega)]; rfl
  omega
end Go.Proofs.YtdihbeffomibeaaGreatDoor
