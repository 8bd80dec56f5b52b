/-
  The document's graphs: Out, Edges.
-/
import Derived.Test.YtbcegdiabnapkabDoorH2
namespace Go.Proofs.YtbcegdiabnapkabDoor
set_option linter.unusedVariables false
set_option linter.unusedSimpArgs false
open Go.RowKit

theorem i64_and1 (n : Int) : bits .and .i64 n 1 = n % 2 := by
  have h1 : (BitVec.ofInt 64 1).toNat = 2 ^ 1 - 1 := by decide
  have key : (BitVec.ofInt 64 n &&& BitVec.ofInt 64 1).toNat = (n % ((2 ^ 64 : Nat) : Int)).toNat % 2 ^ 1 := by
    rw [BitVec.toNat_and, BitVec.toNat_ofInt, h1, Nat.and_two_pow_sub_one_eq_mod]
  show IntKind.i64.wrap ((BitVec.ofInt 64 n &&& BitVec.ofInt 64 1).toNat : Nat) = n % 2
  rw [key, IntKind.wrap_i64]
  omega
theorem and_low (x y : Nat) (hx : x < 16) : x &&& y = x &&& (y % 16) := by
  have e : x = x % 2 ^ 4 := (Nat.mod_eq_of_lt hx).symm
  apply Nat.eq_of_testBit_eq
  intro i
  rw [Nat.testBit_and, Nat.testBit_and, show (16 : Nat) = 2 ^ 4 from rfl, Nat.testBit_mod_two_pow]
  by_cases h : i < 4
  · simp [h]
  · have : x.testBit i = false := Nat.testBit_lt_two_pow (Nat.lt_of_lt_of_le hx (Nat.pow_le_pow_right (n := 2) (i := 4) (by decide) (by omega)))
    simp [this]
theorem i64_and_low (x : Nat) (hx : x < 16) (m : Int) : bits .and .i64 (x : Int) m = ((x &&& (m % 16).toNat : Nat) : Int) := by
  have hx2 : (BitVec.ofInt 64 (x : Int)).toNat = x := by
    rw [BitVec.ofInt_natCast, BitVec.toNat_ofNat]; exact Nat.mod_eq_of_lt (by omega)
  have key : (BitVec.ofInt 64 (x : Int) &&& BitVec.ofInt 64 m).toNat = x &&& (m % 16).toNat := by
    rw [BitVec.toNat_and, hx2, BitVec.toNat_ofInt, and_low x _ hx]
    congr 1
    omega
  show IntKind.i64.wrap ((BitVec.ofInt 64 (x : Int) &&& BitVec.ofInt 64 m).toNat : Nat) = _
  rw [key, IntKind.wrap_i64]
  have : x &&& (m % 16).toNat ≤ x := Nat.and_le_left
  omega
theorem lbit_low (m : Int) (i : Nat) (hi : i < 4) : lbit m i = ((m % 16).toNat).testBit i := by
  unfold lbit
  rw [i64_and1, Nat.testBit_eq_decide_div_mod_eq, Bool.eq_iff_iff]
  have h4 : i = 0 ∨ i = 1 ∨ i = 2 ∨ i = 3 := by omega
  rcases h4 with rfl | rfl | rfl | rfl <;> simp <;> omega
set_option maxRecDepth 100000 in
theorem any_and : ∀ x : Nat, x < 16 → ∀ M : Nat, M < 16 → ((List.range 4).any fun i => M.testBit i && x.testBit i) = !(x &&& M == 0) := by decide +kernel
theorem ends_and (L : Nat → Nat → Nat) (f t : Nat) (labels : Int) (hx : L f t < 16) : (bits BinOp.and IntKind.i64 (L f t : Int) labels == 0) = !endsF L f labels 4 t := by
  have e : endsF L f labels 4 t = ((List.range 4).any fun i => ((labels % 16).toNat).testBit i && (L f t).testBit i) := by
    have hr : List.range 4 = [0, 1, 2, 3] := rfl
    unfold endsF
    rw [hr]
    simp only [List.any_cons, List.any_nil]
    rw [lbit_low labels 0 (by omega), lbit_low labels 1 (by omega), lbit_low labels 2 (by omega), lbit_low labels 3 (by omega)]
  rw [e, any_and _ hx _ (by omega), i64_and_low _ hx, Bool.not_not, Bool.eq_iff_iff]
  simp
end Go.Proofs.YtbcegdiabnapkabDoor
