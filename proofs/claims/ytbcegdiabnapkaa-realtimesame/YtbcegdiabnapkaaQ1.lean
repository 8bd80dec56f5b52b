/-
  cmp.Compare of ints; the comparison by which starts are sorted; what a sort leaves of the rest of memory.
-/
import Derived.Test.YtbcegdiabnapkaaS8
import Derived.Test.YtbcegdiabnapkaaT8
import Derived.Deep.QuietTactic
import Derived.BigQuiet
namespace Go.Proofs.Ytbcegdiabnapkaa
set_option linter.unusedVariables false
set_option linter.unusedSimpArgs false
open Go.RowKit Go.Lib

def cmpI (x y : Int) : Int := if x < y then -1 else if y < x then 1 else 0
theorem cmpI_neg (x y : Int) : cmpI x y < 0 ↔ x < y := by
  unfold cmpI
  split
  · constructor <;> intro <;> omega
  · split <;> constructor <;> intro <;> omega
set_option maxHeartbeats 1000000 in
theorem compare_is (x y : Int) (w : World) : Calls Try.prog 34 #[.int .i64 x, .int .i64 y] w fun e w' => e = .returned (.int .i64 (cmpI x y)) ∧ w = w' := by
  have nan : ∀ z w, Calls Try.prog 42 #[.int .i64 z] w fun e w' => e = .returned (.bool false) ∧ w = w' := fun z w => by
    have hz : (z == z) = true := by simp
    go_enter Try.func42, Try.ntmps42
    go_wp2
    go_ret
    exact ⟨by simp, rfl⟩
  unfold cmpI
  by_cases h1 : x < y
  · rw [if_pos h1]
    go_enter Try.func34, Try.ntmps34
    go_wp2_with (go_at_call 42; refine (nan _ _).mono ?_; rintro e w' ⟨rfl, rfl⟩)
    go_ret
    exact ⟨rfl, rfl⟩
  · rw [if_neg h1]
    by_cases h2 : y < x
    · rw [if_pos h2]
      go_enter Try.func34, Try.ntmps34
      go_wp2_with (go_at_call 42; refine (nan _ _).mono ?_; rintro e w' ⟨rfl, rfl⟩)
      go_ret
      exact ⟨rfl, rfl⟩
    · rw [if_neg h2]
      go_enter Try.func34, Try.ntmps34
      go_wp2_with (go_at_call 42; refine (nan _ _).mono ?_; rintro e w' ⟨rfl, rfl⟩)
      go_ret
      exact ⟨rfl, rfl⟩

theorem two_grown (w : World) (A B : Obj) (q : Nat) : ((w.alloc A).alloc B).drewN q = Sort.grow (w.drewN q) #[A, B] := by
  rw [grow_two]; rfl

set_option maxHeartbeats 2000000 in
set_option maxRecDepth 100000 in
/-- starts$1 -/
theorem byStart_is (pb c n : Nat) (ao : Option Addr) (f : Nat → LT) (i j : Nat) (xi xj : Int) (w : World) (hi : i < n) (hj : j < n) (hpb : pb < w.heap.size) (hbx : w.cell? ⟨pb, 0, none⟩ = some (.slice ao n c)) (hl : Lt w ao n f) :
    Calls Try.prog 39 #[.agg #[.int .i64 i, .int .i64 xi], .agg #[.int .i64 j, .int .i64 xj], .pointer (some ⟨pb, 0, none⟩)] w fun e w' => e = .returned (.int .i64 (cmpI (f i).since (f j).since)) ∧ ∃ q os, w' = Sort.grow (w.drewN q) os := by
  obtain ⟨b, o, rfl, hb, -, -, -, d2, -, -⟩ := hl.five i hi
  obtain ⟨b', o', e', -, -, -, -, e2, -, -⟩ := hl.five j hj
  cases e'
  have hii : (i : Int) < (n : Int) := by omega
  have hji : (j : Int) < (n : Int) := by omega
  have hpb1 : pb < w.heap.size + 1 := by omega
  have hb1 : b < w.heap.size + 1 := by omega
  clear hl
  generalize (f i).since = x at *
  generalize (f j).since = y at *
  have QQ : Hid (∀ q, Calls Try.prog 34 #[.int .i64 x, .int .i64 y] (((w.alloc (.cells #[.int .i64 i, .int .i64 xi] 50)).alloc (.cells #[.int .i64 j, .int .i64 xj] 50)).drewN q) fun e w'' => e = .returned (.int .i64 (cmpI x y)) ∧ ∃ q', w'' = ((w.alloc (.cells #[.int .i64 i, .int .i64 xi] 50)).alloc (.cells #[.int .i64 j, .int .i64 xj] 50)).drewN q') := fun q => (compare_is x y _).mono fun e w' ⟨he, hw⟩ => ⟨he, q, hw.symm⟩
  go_enter Try.func39, Try.ntmps39
  go_wp2_with fail
  go_quiet ((go_at_call 34; exact QQ.out _))
  go_wp2_with fail
  go_ret
  exact ⟨rfl, _, _, two_grown _ _ _ _⟩
end Go.Proofs.Ytbcegdiabnapkaa
