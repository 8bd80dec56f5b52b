/-
  Places turned by quarters.
-/
import Derived.Test.YtcbflglnadmmfaaDoorPl7
namespace Go.Proofs.YtcbflglnadmmfaaDoor
set_option linter.unusedVariables false
set_option linter.unusedSimpArgs false
open Go.RowKit

/-- A place by bits, turned so many times. -/
def tuB : Nat → Nat × Nat → Nat × Nat
  | 0, p => p
  | k + 1, p => (cMulBits (tuB k p).1 (tuB k p).2 0 one).getD (0, 0)
/-- The same in whole numbers. -/
def tuP : Nat → Int × Int → Int × Int
  | 0, p => p
  | k + 1, p => (-(tuP k p).2, (tuP k p).1)
/-- Without -0. -/
def clean (b : Nat) : Nat := if FloatKind.f64.format.order b 0 == some .eq then 0 else b
def turnGo : Nat → Nat × Nat → Int × Int → Bool
  | 0, _, _ => true
  | n + 1, b, z => match cMulBits b.1 b.2 0 one with
    | none => false
    | some r => clean b.1 == fb z.1 && clean b.2 == fb z.2 && turnGo n r (-z.2, z.1)
/-- All places of a spiral turn as they should. -/
def turnSp : Nat → Pp → Bool
  | 0, _ => true
  | n + 1, p => turnGo 4 (fb p.1.1, fb p.1.2) p.1 && turnSp n (ppN p)
theorem turnSp_true : turnSp 100 (ppA 0) = true := by decide +kernel
theorem turnSp_at : ∀ (n k : Nat), turnSp n (ppA k) = true → ∀ j, j < n → turnGo 4 (fb (plX (k + j)), fb (plY (k + j))) (plX (k + j), plY (k + j)) = true := by
  intro n
  induction n with
  | zero => intro k _ j hj; omega
  | succ m ih =>
    intro k h j hj
    simp only [turnSp, Bool.and_eq_true] at h
    cases j with
    | zero => exact h.1
    | succ q =>
      have := ih (k + 1) h.2 q (by omega)
      have e : k + 1 + q = k + (q + 1) := by omega
      rw [e] at this
      exact this
theorem turnGo_step {n : Nat} {b : Nat × Nat} {z : Int × Int} (h : turnGo (n + 1) b z = true) : ∃ r, cMulBits b.1 b.2 0 one = some r ∧ clean b.1 = fb z.1 ∧ clean b.2 = fb z.2 ∧ turnGo n r (-z.2, z.1) = true := by
  unfold turnGo at h
  cases hr : cMulBits b.1 b.2 0 one with
  | none => rw [hr] at h; cases h
  | some r =>
    rw [hr] at h
    simp only [Bool.and_eq_true, beq_iff_eq] at h
    exact ⟨r, rfl, h.1.1, h.1.2, h.2⟩
theorem turnGo_at (p : Nat × Nat) (z : Int × Int) (h : turnGo 4 p z = true) : ∀ q, q < 4 → turnGo (4 - q) (tuB q p) (tuP q z) = true := by
  intro q
  induction q with
  | zero => intro _; exact h
  | succ k ih =>
    intro hk
    have h1 := ih (by omega)
    have e : 4 - k = (4 - (k + 1)) + 1 := by omega
    rw [e] at h1
    obtain ⟨r, hr, _, _, h4⟩ := turnGo_step h1
    have e2 : tuB (k + 1) p = r := by
      show (cMulBits (tuB k p).1 (tuB k p).2 0 one).getD (0, 0) = r
      rw [hr]
      rfl
    rw [e2]
    exact h4
/-- A place that turns as it should. -/
def Turns (x y : Int) : Prop := turnGo 4 (fb x, fb y) (x, y) = true
theorem turns_pl (k : Nat) (hk : k < 100) : Turns (plX k) (plY k) := by
  have := turnSp_at 100 0 turnSp_true k hk
  rw [Nat.zero_add] at this
  exact this
theorem turn_at (x y : Int) (h3 : Turns x y) (q : Nat) (hq : q < 4) :
    cMulBits (tuB q (fb x, fb y)).1 (tuB q (fb x, fb y)).2 0 one = some (tuB (q + 1) (fb x, fb y)) ∧ clean (tuB q (fb x, fb y)).1 = fb (tuP q (x, y)).1 ∧ clean (tuB q (fb x, fb y)).2 = fb (tuP q (x, y)).2 := by
  have h4 := turnGo_at _ _ h3 q hq
  have e4 : 4 - q = (4 - (q + 1)) + 1 := by omega
  rw [e4] at h4
  obtain ⟨r, hr, c1, c2, _⟩ := turnGo_step h4
  refine ⟨?_, c1, c2⟩
  rw [hr]
  show some r = some ((cMulBits (tuB q (fb x, fb y)).1 (tuB q (fb x, fb y)).2 0 one).getD (0, 0))
  rw [hr]
  rfl
theorem tuP_range (p : Int × Int) (h : -10 ≤ p.1 ∧ p.1 ≤ 10 ∧ -10 ≤ p.2 ∧ p.2 ≤ 10) : ∀ q, -10 ≤ (tuP q p).1 ∧ (tuP q p).1 ≤ 10 ∧ -10 ≤ (tuP q p).2 ∧ (tuP q p).2 ≤ 10
  | 0 => h
  | q + 1 => by
    have := tuP_range p h q
    simp only [tuP]
    omega
set_option maxHeartbeats 4000000 in
set_option maxRecDepth 100000 in
theorem cleanP_is (b : Nat) (w : World) : Calls Tryd.prog 29 #[.float .f64 b] w fun e w' => e = .returned (.float .f64 (clean b)) ∧ w = w' := by
  by_cases h : (FloatKind.f64.format.order b 0 == some .eq) = true
  · rw [show clean b = 0 from if_pos h]
    go_enter Tryd.func29, Tryd.ntmps29
    go_wp2_with fail
    go_ret
    exact ⟨rfl, rfl⟩
  · rw [show clean b = b from if_neg h]
    have h' : (FloatKind.f64.format.order b 0 == some .eq) = false := by simpa using h
    clear h
    go_enter Tryd.func29, Tryd.ntmps29
    go_wp2_with fail
    go_ret
    exact ⟨rfl, rfl⟩
set_option maxHeartbeats 4000000 in
set_option maxRecDepth 100000 in
theorem clean_is (a b : Nat) (w : World) : Calls Tryd.prog 20 #[.complex .f64 a b] w fun e w' => e = .returned (.complex .f64 (clean a) (clean b)) ∧ w = w' := by
  go_enter Tryd.func20, Tryd.ntmps20
  go_wp2_with (go_at_call 29; refine (cleanP_is _ _).mono ?_; rintro e w1 ⟨rfl, rfl⟩)
  go_ret
  exact ⟨rfl, rfl⟩
/-- How many quarters. -/
def quar (q : Int) : Nat := (bits .and .i64 q 3).toNat
set_option maxHeartbeats 4000000 in
set_option maxRecDepth 100000 in
theorem turned_is (x y q : Int) (hxy : Turns x y) (m : Nat) (hm : bits .and .i64 q 3 = (m : Int)) (hm4 : m < 4) (w : World) :
    Calls Tryd.prog 10 #[.complex .f64 (fb x) (fb y), .int .i64 q] w fun e w' => e = .returned (cP (tuP m (x, y))) ∧ w = w' := by
  have HP : Hid (∀ k, k < 4 → cP (tuP k (x, y)) = .complex .f64 (clean (tuB k (fb x, fb y)).1) (clean (tuB k (fb x, fb y)).2)) := fun k hk => by
    obtain ⟨_, h1, h2⟩ := turn_at x y hxy k hk
    unfold cP
    rw [h1, h2]
  have HM : Hid (∀ k, k < 4 → cMulBits (tuB k (fb x, fb y)).1 (tuB k (fb x, fb y)).2 0 one = some ((tuB (k + 1) (fb x, fb y)).1, (tuB (k + 1) (fb x, fb y)).2)) := fun k hk => (turn_at x y hxy k hk).1
  have H0 : Hid (tuB 0 (fb x, fb y) = (fb x, fb y)) := rfl
  generalize fb x = X at *
  generalize fb y = Y at *
  go_enter Tryd.func10, Tryd.ntmps10
  go_wp2_with fail
  go_loopg [0, 7] m (fun gg p i wr => ∃ k : Nat, k ≤ m ∧ m - k ≤ gg ∧ i = .int .i64 k ∧ p = .complex .f64 (tuB k (X, Y)).1 (tuB k (X, Y)).2 ∧ wr = w)
  case atStart => exact ⟨0, Nat.zero_le _, by omega, rfl, rfl, rfl⟩
  case round =>
    obtain ⟨k, hk, hgk, rfl, rfl, rfl⟩ := hrel
    by_cases hlt : k < m
    · have hlti : (k : Int) < m := by omega
      have hmul := fun (w : World) => run_complex_mul (P := Tryd.prog) w 33 _ _ 0 one _ _ (HM.out k (by omega))
      go_wp2_with fail
      go_roundg (m - (k + 1))
      case measure => omega
      case rel => exact ⟨k + 1, by omega, by omega, by go_num, rfl, rfl⟩
    · have hlti : ¬ (k : Int) < m := by omega
      have e : k = m := by omega
      subst e
      go_wp2_with (go_at_call 20; refine (clean_is _ _ _).mono ?_; rintro e w1 ⟨rfl, rfl⟩)
      go_ret
      exact ⟨by rw [HP.out k hm4]; rfl, rfl⟩
theorem quar_is (q : Int) : ∃ m : Nat, m < 4 ∧ bits .and .i64 q 3 = (m : Int) := by
  have h : (BitVec.ofInt 64 q &&& BitVec.ofInt 64 3).toNat < 4 := by
    rw [BitVec.toNat_and]
    exact Nat.lt_of_le_of_lt Nat.and_le_right (by decide)
  refine ⟨_, h, ?_⟩
  show IntKind.i64.wrap ((BitVec.ofInt 64 q &&& BitVec.ofInt 64 3).toNat : Int) = _
  generalize (BitVec.ofInt 64 q &&& BitVec.ofInt 64 3).toNat = m at *
  simp [IntKind.wrap, IntKind.bits, IntKind.signed]
  omega
end Go.Proofs.YtcbflglnadmmfaaDoor
