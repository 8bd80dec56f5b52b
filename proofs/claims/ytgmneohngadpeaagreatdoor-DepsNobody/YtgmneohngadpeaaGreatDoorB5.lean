/-
  A set: Add, Drop, Has, Bound.
-/
import Derived.Test.YtgmneohngadpeaaGreatDoorB3
import Derived.Test.YtgmneohngadpeaaGreatDoorPop
import Derived.Laws.BitsAllLaws
namespace Go.Proofs.YtgmneohngadpeaaGreatDoor
set_option linter.unusedVariables false
set_option linter.unusedSimpArgs false
open Go.RowKit

/-- The bit i of words. -/
def bit (ws : List Nat) (i : Nat) : Bool := (ws.getD (i / 64) 0).testBit (i % 64)

theorem words_at (ws : List Nat) (j : Nat) : (wordsV ws)[j]? = ws[j]?.map fun x : Nat => Value.int .u64 x := by
  simp [wordsV]
theorem words_set (ws : List Nat) (j x : Nat) : (wordsV ws).setIfInBounds j (.int .u64 x) = wordsV (ws.set j x) := by
  unfold wordsV
  rw [List.map_set]
  simp
theorem SetAt.c0 {w : World} {b n c : Nat} {ws : List Nat} (h : SetAt w b n c ws) : w.cell? ⟨b, 0, none⟩ = some (.bool true) := Lib.cell_of_heap h.box 0
theorem SetAt.c1 {w : World} {b n c : Nat} {ws : List Nat} (h : SetAt w b n c ws) : w.cell? ⟨b, 1, none⟩ = some (.int .i64 n) := Lib.cell_of_heap h.box 1
theorem SetAt.c2 {w : World} {b n c : Nat} {ws : List Nat} (h : SetAt w b n c ws) : w.cell? ⟨b, 2, none⟩ = some (.slice (some ⟨c, 0, none⟩) ws.length ws.length) := Lib.cell_of_heap h.box 2
theorem SetAt.word {w : World} {b n c : Nat} {ws : List Nat} (h : SetAt w b n c ws) (j : Nat) (hj : j < ws.length) : w.cell? ⟨c, j, none⟩ = some (.int .u64 (ws.getD j 0 : Nat)) := by
  rw [Lib.cell_of_heap h.row j, words_at, List.getElem?_eq_getElem hj, List.getD_eq_getElem?_getD, List.getElem?_eq_getElem hj]
  rfl
theorem SetAt.free {w : World} {b n c : Nat} {ws : List Nat} (h : SetAt w b n c ws) (j : Nat) : w.frozen? ⟨c, j, none⟩ = false := Lib.frozen_of_heap h.row j
theorem SetAt.lt {w : World} {b n c : Nat} {ws : List Nat} (h : SetAt w b n c ws) (j : Nat) : ws.getD j 0 < 18446744073709551616 := by
  by_cases hj : j < ws.length
  · rw [List.getD_eq_getElem?_getD, List.getElem?_eq_getElem hj]
    exact h.small _ (List.getElem_mem hj)
  · rw [List.getD_eq_getElem?_getD, List.getElem?_eq_none (by omega)]
    decide

theorem check_ok (b : Nat) (n i : Nat) (w : World) (c0 : w.cell? ⟨b, 0, none⟩ = some (.bool true)) (c1 : w.cell? ⟨b, 1, none⟩ = some (.int .i64 n)) (hi : i < n) : Calls Tryz.prog 50 #[.pointer (some ⟨b, 0, none⟩), .int .i64 i] w fun e w' => e = .returned (.int .i64 0) ∧ w = w' := by
  have h1 : (0 : Int) ≤ i := by omega
  have h2 : (i : Int) < n := by omega
  go_enter Tryz.func50, Tryz.ntmps50
  go_wp2_with (go_at_call 87; refine (isMade_at _ _ _ c0).mono ?_; rintro e w' ⟨rfl, rfl⟩)
  go_ret
  exact ⟨rfl, rfl⟩
theorem check_bad (b : Nat) (n : Nat) (i : Int) (w : World) (c0 : w.cell? ⟨b, 0, none⟩ = some (.bool true)) (c1 : w.cell? ⟨b, 1, none⟩ = some (.int .i64 n)) (hi : i < 0 ∨ (n : Int) ≤ i) : Calls Tryz.prog 50 #[.pointer (some ⟨b, 0, none⟩), .int .i64 i] w fun e w' => e = .returned (.int .i64 1) ∧ w = w' := by
  rcases hi with h | h
  · go_enter Tryz.func50, Tryz.ntmps50
    go_wp2_with (go_at_call 87; refine (isMade_at _ _ _ c0).mono ?_; rintro e w' ⟨rfl, rfl⟩)
    go_ret
    exact ⟨rfl, rfl⟩
  · have h1 : (0 : Int) ≤ i := by omega
    go_enter Tryz.func50, Tryz.ntmps50
    go_wp2_with (go_at_call 87; refine (isMade_at _ _ _ c0).mono ?_; rintro e w' ⟨rfl, rfl⟩)
    go_ret
    exact ⟨rfl, rfl⟩
theorem add_bad (b n c : Nat) (ws : List Nat) (i : Int) (w : World) (h : SetAt w b n c ws) (hi : i < 0 ∨ (n : Int) ≤ i) : Calls Tryz.prog 30 #[.pointer (some ⟨b, 0, none⟩), .int .i64 i] w fun e w' => e = .returned (.int .i64 1) ∧ w = w' := by
  have c0 := hid h.c0
  have c1 := hid h.c1
  have HI := hid hi
  clear h hi
  go_enter Tryz.func30, Tryz.ntmps30
  go_wp2_with (go_at_call 50; refine (check_bad _ _ _ _ c0.out c1.out HI.out).mono ?_; rintro e w' ⟨rfl, rfl⟩)
  go_ret
  exact ⟨rfl, rfl⟩
theorem has_bad (b n c : Nat) (ws : List Nat) (i : Int) (w : World) (h : SetAt w b n c ws) (hi : i < 0 ∨ (n : Int) ≤ i) : Calls Tryz.prog 31 #[.pointer (some ⟨b, 0, none⟩), .int .i64 i] w fun e w' => e = .returned (.bool false) ∧ w = w' := by
  have c0 := hid h.c0
  have c1 := hid h.c1
  have HI := hid hi
  clear h hi
  go_enter Tryz.func31, Tryz.ntmps31
  go_wp2_with (go_at_call 50; refine (check_bad _ _ _ _ c0.out c1.out HI.out).mono ?_; rintro e w' ⟨rfl, rfl⟩)
  go_ret
  exact ⟨rfl, rfl⟩
theorem ret_bool {a b : Bool} (h : a = b) : Ending.returned (.bool a) = .returned (.bool b) := by rw [h]
theorem ret_int {k : IntKind} {a b : Int} (h : a = b) : Ending.returned (.int k a) = .returned (.int k b) := by rw [h]
theorem has_bit (x k : Nat) (hx : x < 18446744073709551616) : (bits BinOp.and IntKind.u64 ((x : Int) / 2 ^ k) 1 == 1) = x.testBit k := by
  have e : (x : Int) / 2 ^ k = ((x / 2 ^ k : Nat) : Int) := by simp
  have hle : x / 2 ^ k ≤ x := Nat.div_le_self _ _
  rw [e, show (1 : Int) = ((1 : Nat) : Int) from rfl, u64_and_nat _ _ (by omega) (by decide), nat_mask1, Nat.testBit_eq_decide_div_mod_eq]
  rw [Bool.eq_iff_iff]
  simp
  omega
set_option maxHeartbeats 1000000 in
theorem has_ok (b n c : Nat) (ws : List Nat) (i : Nat) (w : World) (h : SetAt w b n c ws) (hi : i < n) : Calls Tryz.prog 31 #[.pointer (some ⟨b, 0, none⟩), .int .i64 i] w fun e w' => e = .returned (.bool (bit ws i)) ∧ w = w' := by
  have c0 := h.c0
  have c1 := h.c1
  have c2 := h.c2
  have hl := h.len
  have hj : i / 64 < ws.length := by omega
  have cw := h.word (i / 64) hj
  have hx := h.lt (i / 64)
  have hbd := h.bound
  have hix : (i : Int) ≤ 4096 := by omega
  have hi0 : (0 : Int) ≤ i := by omega
  unfold bit
  clear h
  generalize ws.getD (i / 64) 0 = x at *
  generalize ws.length = m at *
  go_enter Tryz.func31, Tryz.ntmps31
  go_wp2_with (go_at_call 50; refine (check_ok _ _ _ _ c0 c1 hi).mono ?_; rintro e w' ⟨rfl, rfl⟩)
  go_ret
  exact ⟨ret_bool (has_bit x _ hx), rfl⟩
theorem shl_lt (k : Nat) (hk : k < 64) : 2 ^ k < 18446744073709551616 := Nat.pow_lt_pow_of_lt (a := 2) (n := k) (m := 64) (by decide) hk
theorem shl_word (k : Nat) (hk : k < 64) : IntKind.u64.wrap (2 ^ k) = ((2 ^ k : Nat) : Int) := by
  rw [IntKind.wrap_u64, show (2 : Int) ^ k = ((2 ^ k : Nat) : Int) by simp]
  have := shl_lt k hk
  generalize (2 ^ k : Nat) = y at *
  omega
theorem or_word (x k : Nat) (hx : x < 18446744073709551616) (hk : k < 64) : bits BinOp.or IntKind.u64 (x : Int) (IntKind.u64.wrap (2 ^ k)) = ((x ||| 2 ^ k : Nat) : Int) := by
  rw [shl_word k hk, u64_or_nat _ _ hx (shl_lt k hk)]
theorem andNot_word (x k : Nat) (hx : x < 18446744073709551616) (hk : k < 64) : bits BinOp.andNot IntKind.u64 (x : Int) (IntKind.u64.wrap (2 ^ k)) = ((x &&& (18446744073709551615 - 2 ^ k) : Nat) : Int) := by
  rw [shl_word k hk, u64_andNot_nat _ _ hx (shl_lt k hk)]
set_option maxHeartbeats 1000000 in
theorem add_raw (b n c : Nat) (ws : List Nat) (i : Nat) (w : World) (h : SetAt w b n c ws) (hi : i < n) : Calls Tryz.prog 30 #[.pointer (some ⟨b, 0, none⟩), .int .i64 i] w fun e w' => e = .returned (.int .i64 0) ∧ ∃ q, w' = (w.setCell ⟨c, i / 64, none⟩ (.int .u64 (ws.getD (i / 64) 0 ||| 2 ^ (i % 64) : Nat))).drewN q := by
  have c0 := h.c0
  have c1 := h.c1
  have c2 := h.c2
  have hl := h.len
  have hj : i / 64 < ws.length := by omega
  have cw := h.word (i / 64) hj
  have hf := h.free (i / 64)
  have hx := h.lt (i / 64)
  have hbd := h.bound
  have hix : (i : Int) ≤ 4096 := by omega
  have hi0 : (0 : Int) ≤ i := by omega
  clear h
  generalize ws.getD (i / 64) 0 = x at *
  generalize ws.length = m at *
  go_enter Tryz.func30, Tryz.ntmps30
  go_wp2_with (go_at_call 50; refine (check_ok _ _ _ _ c0 c1 hi).mono ?_; rintro e w' ⟨rfl, rfl⟩)
  go_region
  go_wp2
  rw [or_word x _ hx (by omega)]
  go_ret
  exact ⟨rfl, 1, rfl⟩
end Go.Proofs.YtgmneohngadpeaaGreatDoor
