/-
  Walk of the reference's number.
-/
import Derived.Test.YtlkmciegpmpbbaaDoorS1
namespace Go.Proofs.YtlkmciegpmpbbaaDoor
set_option linter.unusedVariables false
set_option linter.unusedSimpArgs false
open Go.RowKit

/-- What the reference's number answers. -/
def refNumVal : Except (Nat × Nat) (Int × Nat) → Value
  | .ok (n, k) => .tuple #[.int .i64 n, .int .i64 k, .int .i64 0, .int .i64 0]
  | .error (a, y) => .tuple #[.int .i64 0, .int .i64 0, .int .i64 a, .int .i64 y]

theorem tdiv_lo (d : Int) (_h0 : 0 ≤ d) (h9 : d ≤ 9) : (-9223372036854775808 + d).tdiv 10 = -((9223372036854775808 - d) / 10) := by
  rw [show (-9223372036854775808 + d : Int) = -(9223372036854775808 - d) by omega, Int.neg_tdiv, Int.tdiv_eq_ediv_of_nonneg (by omega)]

theorem over_iff (v d : Int) (h0 : 0 ≤ d) (h9 : d ≤ 9) : -v < (-9223372036854775808 + d).tdiv 10 ↔ 9223372036854775808 < v * 10 + d := by
  rw [tdiv_lo d h0 h9]; omega

theorem wr64 (x : Int) (h : -9223372036854775808 ≤ x ∧ x ≤ 9223372036854775807) : wrap64 x = x := by
  unfold wrap64; omega

theorem dg_c (c : Nat) (w : World) : Calls Tryd.prog 45 #[.int .u8 c] w fun e w' => e = .returned (.bool (isDg c)) ∧ w = w' := (refDigit_any c w).mono fun _ _ h => ⟨h.1, h.2.symm⟩
theorem lt_c (c : Nat) (w : World) : Calls Tryd.prog 44 #[.int .u8 c] w fun e w' => e = .returned (.bool (isSm c)) ∧ w = w' := (refLetter_any c w).mono fun _ _ h => ⟨h.1, h.2.symm⟩

/-- A run of k + 1 digits lies ahead of a number's end. -/
theorem digits_lt {s : ByteArray} {i k : Nat} (hz : ¬ bt s (nF s i) = 48) (h : ∀ j, j ≤ k → isDg (bt s (nF s i + j)) = true) : nF s i + k < nE s i := by
  unfold nE
  rw [if_neg hz]
  have hr := dEnd_is s (nF s i + 1)
  rcases Nat.lt_or_ge (nF s i + k) (dEnd s (nF s i + 1)) with h1 | h1
  · exact h1
  · have := h (dEnd s (nF s i + 1) - nF s i) (by omega)
    rw [show nF s i + (dEnd s (nF s i + 1) - nF s i) = dEnd s (nF s i + 1) by have := hr.1; omega, hr.2.2] at this
    cases this

theorem big_of {s : ByteArray} {i k : Nat} (hz : ¬ bt s (nF s i) = 48) (h : ∀ j, j ≤ k → isDg (bt s (nF s i + j)) = true) (hv : 9223372036854775808 < dv s (nF s i) (k + 1)) : nBig s i := by
  have h1 := digits_lt hz h
  have hm := dv_mono s (nF s i) (nE s i - nF s i - (k + 1)) (k + 1)
  have : nV s i = dv s (nF s i) (k + 1 + (nE s i - nF s i - (k + 1))) := by unfold nV; congr 1; omega
  unfold nBig
  omega

theorem end_at {s : ByteArray} {i k : Nat} (hz : ¬ bt s (nF s i) = 48) (hk : 1 ≤ k) (h : ∀ j, j < k → isDg (bt s (nF s i + j)) = true) (hq : isDg (bt s (nF s i + k)) = false) : nE s i = nF s i + k := by
  unfold nE
  rw [if_neg hz]
  refine (dEnd_is s (nF s i + 1)).uniq ⟨by omega, fun j h1 h2 => ?_, hq⟩
  have := h (j - nF s i) (by omega)
  rwa [show nF s i + (j - nF s i) = j by omega] at this

end Go.Proofs.YtlkmciegpmpbbaaDoor
