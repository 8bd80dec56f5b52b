/-
  Levels: contracts of the calls, and of the document's.
-/
import Derived.Test.YtonmmeeigklapabRows
import Derived.WalkKit
import Derived.ProofKit
import Derived.OpenShut
import Derived.BigQuiet
import Derived.Deep.QuietTactic
namespace Go.Proofs.Ytonmmeeigklapab
open Go.RowKit
set_option linter.unusedVariables false
set_option linter.unusedSimpArgs false

/-- The level that an anomaly refutes. -/
def refL (k : Int) (r s : Bool) : Int := if k = 1 ∨ k = 2 ∨ k = 3 ∨ k = 4 then 1 else if k = 5 ∨ k = 6 then 2 else if k = 7 then 4 else if k = 8 ∨ k = 9 ∨ k = 10 ∨ k = 11 then (if r then 5 else if k = 8 then (if s then 1 else 2) else if k = 9 then 2 else if k = 10 then 3 else 4) else 0
theorem refL_none (k : Int) (r s : Bool) (h1 : ¬ k = 1) (h2 : ¬ k = 2) (h3 : ¬ k = 3) (h4 : ¬ k = 4) (h5 : ¬ k = 5) (h6 : ¬ k = 6) (h7 : ¬ k = 7) (h8 : ¬ k = 8) (h9 : ¬ k = 9) (h10 : ¬ k = 10) (h11 : ¬ k = 11) : refL k r s = 0 := by
  simp [refL, h1, h2, h3, h4, h5, h6, h7, h8, h9, h10, h11]
theorem refL_range (k : Int) (r s : Bool) : 0 ≤ refL k r s ∧ refL k r s ≤ 5 := by
  unfold refL
  split
  · omega
  · split
    · omega
    · split
      · omega
      · split
        · split
          · omega
          · split
            · split <;> omega
            · split
              · omega
              · split <;> omega
        · omega
theorem refL_out (k : Int) (r s : Bool) (h : k < 1 ∨ 11 < k) : refL k r s = 0 := by
  unfold refL
  rw [if_neg (by omega), if_neg (by omega), if_neg (by omega), if_neg (by omega)]
theorem ret_int {k : IntKind} {a b : Int} (h : a = b) : Ending.returned (.int k a) = .returned (.int k b) := by rw [h]

set_option maxHeartbeats 1000000 in
theorem plain_is (k : Int) (s : Bool) (w : World) (h : k = 8 ∨ k = 9 ∨ k = 10 ∨ k = 11) : Calls Try.prog 13 #[.int .i64 k, .bool s] w fun e w' => e = .returned (.int .i64 (refL k false s)) ∧ w = w' := by
  rcases h with rfl | rfl | rfl | rfl <;> cases s <;> (go_enter Try.func13, Try.ntmps13; go_wp2; go_ret; exact ⟨rfl, rfl⟩)

set_option maxHeartbeats 4000000 in
theorem refutes_is (k : Int) (r s : Bool) (w : World) : Calls Try.prog 7 #[.int .i64 k, .bool r, .bool s] w fun e w' => e = .returned (.int .i64 (refL k r s)) ∧ w = w' := by
  by_cases h1 : k = 1
  · subst h1; go_enter Try.func7, Try.ntmps7; go_wp2; go_ret; exact ⟨rfl, rfl⟩
  by_cases h2 : k = 2
  · subst h2; go_enter Try.func7, Try.ntmps7; go_wp2; go_ret; exact ⟨rfl, rfl⟩
  by_cases h3 : k = 3
  · subst h3; go_enter Try.func7, Try.ntmps7; go_wp2; go_ret; exact ⟨rfl, rfl⟩
  by_cases h4 : k = 4
  · subst h4; go_enter Try.func7, Try.ntmps7; go_wp2; go_ret; exact ⟨rfl, rfl⟩
  by_cases h5 : k = 5
  · subst h5; go_enter Try.func7, Try.ntmps7; go_wp2; go_ret; exact ⟨rfl, rfl⟩
  by_cases h6 : k = 6
  · subst h6; go_enter Try.func7, Try.ntmps7; go_wp2; go_ret; exact ⟨rfl, rfl⟩
  by_cases h7 : k = 7
  · subst h7; go_enter Try.func7, Try.ntmps7; go_wp2; go_ret; exact ⟨rfl, rfl⟩
  by_cases h8 : k = 8
  · subst h8; cases r <;> cases s <;> (go_enter Try.func7, Try.ntmps7; go_wp2_with (go_at_call 13; refine (plain_is _ _ _ (by omega)).mono ?_; rintro e w' ⟨rfl, rfl⟩); go_ret; exact ⟨rfl, rfl⟩)
  by_cases h9 : k = 9
  · subst h9; cases r <;> cases s <;> (go_enter Try.func7, Try.ntmps7; go_wp2_with (go_at_call 13; refine (plain_is _ _ _ (by omega)).mono ?_; rintro e w' ⟨rfl, rfl⟩); go_ret; exact ⟨rfl, rfl⟩)
  by_cases h10 : k = 10
  · subst h10; cases r <;> cases s <;> (go_enter Try.func7, Try.ntmps7; go_wp2_with (go_at_call 13; refine (plain_is _ _ _ (by omega)).mono ?_; rintro e w' ⟨rfl, rfl⟩); go_ret; exact ⟨rfl, rfl⟩)
  by_cases h11 : k = 11
  · subst h11; cases r <;> cases s <;> (go_enter Try.func7, Try.ntmps7; go_wp2_with (go_at_call 13; refine (plain_is _ _ _ (by omega)).mono ?_; rintro e w' ⟨rfl, rfl⟩); go_ret; exact ⟨rfl, rfl⟩)
  have HR := refL_none k r s h1 h2 h3 h4 h5 h6 h7 h8 h9 h10 h11
  rw [HR]
  clear HR
  go_enter Try.func7, Try.ntmps7
  go_wp2
  go_ret
  exact ⟨rfl, rfl⟩

set_option maxHeartbeats 4000000 in
theorem rrefutes_is (k : Int) (r s : Bool) (w : World) : Calls Try.prog 8 #[.int .i64 k, .bool r, .bool s] w fun e w' => e = .returned (.int .i64 (refL k r s)) ∧ w = w' := by
  by_cases h1 : k = 1
  · subst h1; go_enter Try.func8, Try.ntmps8; go_wp2; go_ret; exact ⟨rfl, rfl⟩
  by_cases h2 : k = 2
  · subst h2; go_enter Try.func8, Try.ntmps8; go_wp2; go_ret; exact ⟨rfl, rfl⟩
  by_cases h3 : k = 3
  · subst h3; go_enter Try.func8, Try.ntmps8; go_wp2; go_ret; exact ⟨rfl, rfl⟩
  by_cases h4 : k = 4
  · subst h4; go_enter Try.func8, Try.ntmps8; go_wp2; go_ret; exact ⟨rfl, rfl⟩
  by_cases h5 : k = 5
  · subst h5; go_enter Try.func8, Try.ntmps8; go_wp2; go_ret; exact ⟨rfl, rfl⟩
  by_cases h6 : k = 6
  · subst h6; go_enter Try.func8, Try.ntmps8; go_wp2; go_ret; exact ⟨rfl, rfl⟩
  by_cases h7 : k = 7
  · subst h7; go_enter Try.func8, Try.ntmps8; go_wp2; go_ret; exact ⟨rfl, rfl⟩
  by_cases h8 : k = 8
  · subst h8; cases r <;> cases s <;> (go_enter Try.func8, Try.ntmps8; go_wp2; go_ret; exact ⟨rfl, rfl⟩)
  by_cases h9 : k = 9
  · subst h9; cases r <;> cases s <;> (go_enter Try.func8, Try.ntmps8; go_wp2; go_ret; exact ⟨rfl, rfl⟩)
  by_cases h10 : k = 10
  · subst h10; cases r <;> cases s <;> (go_enter Try.func8, Try.ntmps8; go_wp2; go_ret; exact ⟨rfl, rfl⟩)
  by_cases h11 : k = 11
  · subst h11; cases r <;> cases s <;> (go_enter Try.func8, Try.ntmps8; go_wp2; go_ret; exact ⟨rfl, rfl⟩)
  have HR := refL_none k r s h1 h2 h3 h4 h5 h6 h7 h8 h9 h10 h11
  rw [HR]
  clear HR
  go_enter Try.func8, Try.ntmps8
  go_wp2
  go_ret
  exact ⟨rfl, rfl⟩

/-- A number is one of the six. -/
def lvB (n : Int) : Bool := decide (0 ≤ n ∧ n < 6)
theorem lvB_yes {n : Int} (h0 : 0 ≤ n) (h : n < 6) : lvB n = true := decide_eq_true ⟨h0, h⟩
theorem lvB_no {n : Int} (h : n < 0 ∨ 6 ≤ n) : lvB n = false := decide_eq_false (by omega)
set_option maxHeartbeats 1000000 in
theorem isLevel_is (n : Int) (w : World) : Calls Try.prog 14 #[.int .i64 n] w fun e w' => e = .returned (.bool (lvB n)) ∧ w = w' := by
  by_cases h0 : 0 ≤ n
  · by_cases h6 : n < 6
    · rw [lvB_yes h0 h6]
      go_enter Try.func14, Try.ntmps14
      go_wp2
      go_ret
      exact ⟨rfl, rfl⟩
    · rw [lvB_no (by omega)]
      go_enter Try.func14, Try.ntmps14
      go_wp2
      go_ret
      exact ⟨rfl, rfl⟩
  · rw [lvB_no (by omega)]
    go_enter Try.func14, Try.ntmps14
    go_wp2
    go_ret
    exact ⟨rfl, rfl⟩
/-- A level allows an anomaly. -/
def alwB (n k : Int) (r s : Bool) : Bool := lvB n && decide (n < refL k r s)
set_option maxHeartbeats 2000000 in
theorem allows_is (n k : Int) (r s : Bool) (w : World) : Calls Try.prog 9 #[.int .i64 n, .int .i64 k, .bool r, .bool s] w fun e w' => e = .returned (.bool (alwB n k r s)) ∧ w = w' := by
  have IL := isLevel_is n w
  by_cases hl : lvB n = true
  · rw [hl] at IL
    have RF := refutes_is k r s w
    have e : alwB n k r s = decide (n < refL k r s) := by unfold alwB; rw [hl]; rfl
    rw [e]
    clear e hl
    generalize refL k r s = q at *
    go_enter Try.func9, Try.ntmps9
    go_wp2_with (first | (go_at_call 14; refine IL.mono ?_; rintro e w' ⟨rfl, rfl⟩) | (go_at_call 7; refine RF.mono ?_; rintro e w' ⟨rfl, rfl⟩))
    go_ret
    exact ⟨rfl, rfl⟩
  · have hl' : lvB n = false := by cases h : lvB n with | true => exact absurd h hl | false => rfl
    rw [hl'] at IL
    have e : alwB n k r s = false := by unfold alwB; rw [hl']; rfl
    rw [e]
    clear e hl hl'
    go_enter Try.func9, Try.ntmps9
    go_wp2_with (go_at_call 14; refine IL.mono ?_; rintro e w' ⟨rfl, rfl⟩)
    go_ret
    exact ⟨rfl, rfl⟩
set_option maxHeartbeats 4000000 in
theorem rallows_is (n k : Int) (r s : Bool) (w : World) : Calls Try.prog 10 #[.int .i64 n, .int .i64 k, .bool r, .bool s] w fun e w' => e = .returned (.bool (alwB n k r s)) ∧ w = w' := by
  have RF := rrefutes_is k r s w
  have hr := refL_range k r s
  have ho := refL_out k r s
  by_cases h0 : 0 ≤ n
  · by_cases h5 : n ≤ 5
    · have e : alwB n k r s = decide (n < refL k r s) := by unfold alwB; rw [lvB_yes h0 (by omega)]; rfl
      rw [e]
      clear e
      by_cases k1 : 1 ≤ k
      · by_cases k2 : k ≤ 11
        · clear ho hr
          generalize refL k r s = q at *
          go_enter Try.func10, Try.ntmps10
          go_wp2_with (go_at_call 8; refine RF.mono ?_; rintro e w' ⟨rfl, rfl⟩)
          go_ret
          exact ⟨rfl, rfl⟩
        · rw [ho (.inr (by omega)), decide_eq_false (by omega)]
          clear ho hr RF
          go_enter Try.func10, Try.ntmps10
          go_wp2
          go_ret
          exact ⟨rfl, rfl⟩
      · rw [ho (.inl (by omega)), decide_eq_false (by omega)]
        clear ho hr RF
        go_enter Try.func10, Try.ntmps10
        go_wp2
        go_ret
        exact ⟨rfl, rfl⟩
    · have e : alwB n k r s = false := by unfold alwB; rw [lvB_no (by omega)]; rfl
      rw [e]
      clear e ho hr RF
      go_enter Try.func10, Try.ntmps10
      go_wp2
      go_ret
      exact ⟨rfl, rfl⟩
  · have e : alwB n k r s = false := by unfold alwB; rw [lvB_no (by omega)]; rfl
    rw [e]
    clear e ho hr RF
    go_enter Try.func10, Try.ntmps10
    go_wp2
    go_ret
    exact ⟨rfl, rfl⟩
end Go.Proofs.Ytonmmeeigklapab
