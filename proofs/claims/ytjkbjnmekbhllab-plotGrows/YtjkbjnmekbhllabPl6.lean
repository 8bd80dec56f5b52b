/-
  Trunc, and whether a part is whole, at the whole numbers from -10 to 10.
-/
import Derived.Test.YtjkbjnmekbhllabPl2
import Derived.Laws.Externs
import Derived.Laws.Bits64
import Derived.Laws.BitsAll
import Derived.Laws.Shifts
import Derived.Laws.ShiftsVar
namespace Go.Proofs.Ytjkbjnmekbhllab
set_option linter.unusedVariables false
set_option linter.unusedSimpArgs false
open Go.RowKit

/-- A number that is a number and whole, by its bits. -/
def wholeD (b : Nat) : Bool := match FloatKind.f64.decode b with
  | .nan _ _ => false
  | d => FloatKind.f64.encode (d.integral .zero) == b
def whB (b : Nat) : Bool := FloatKind.f64.format.order 13860109328209412096 b == some .lt && FloatKind.f64.format.order b 4636737291354636288 == some .lt && FloatKind.f64.format.order b b == some .eq && wholeD b
def whAll : Bool := (List.range 21).all fun i => whB (fb ((i : Int) - 10))
theorem whAll_true : whAll = true := by decide +kernel
/-- The bits of a number that is whole, by its test. -/
def WhB (b : Nat) : Prop := whB b = true
theorem wh_at (x : Int) (h : -10 ≤ x ∧ x ≤ 10) : WhB (fb x) := by
  have h1 := whAll_true
  unfold whAll at h1
  rw [List.all_eq_true] at h1
  have h2 := h1 (x + 10).toNat (List.mem_range.2 (by omega))
  have e : (((x + 10).toNat : Nat) : Int) - 10 = x := by omega
  rw [e] at h2
  exact h2
theorem run_archTrunc (b : Nat) (h : WhB b) (w : World) : (callFunc 18 #[.float .f64 b]).run Try.prog w = .ok (.value (.float .f64 b)) w := by
  rw [run_callFunc_extern (e := Extern.MathFloor.toIntegral "math.archTrunc" .zero) Try.func18 (by kernel_rfl) (by kernel_rfl) (by kernel_rfl) (by kernel_rfl)]
  unfold WhB whB at h
  simp only [Bool.and_eq_true] at h
  have h3 := h.2
  unfold wholeD at h3
  change ((match FloatKind.f64.decode b with
    | .nan s t =>
      if FloatKind.f64.format.quiet t = t then pure (.float .f64 b) else do
      let kept ← choose (.extern "math.Floor,Ceil,Trunc,RoundToEven.signallingNaN kept" 2)
      pure (.float .f64 (if kept == 1 then b else FloatKind.f64.encode (.nan s (FloatKind.f64.format.quiet t))))
    | d => pure (.float .f64 (FloatKind.f64.encode (d.integral .zero))) : Sem Value).run Try.prog w).andThen _ = _
  cases hd : FloatKind.f64.decode b with
  | nan s t => rw [hd] at h3; cases h3
  | infinity s =>
    rw [hd] at h3
    simp only [beq_iff_eq] at h3
    simp only [Sem.run_pure, h3, Result.andThen]
  | number s m e =>
    rw [hd] at h3
    simp only [beq_iff_eq] at h3
    simp only [Sem.run_pure, h3, Result.andThen]
set_option maxHeartbeats 2000000 in
set_option maxRecDepth 100000 in
theorem Trunc_is (b : Nat) (w : World) (h : WhB b) : Calls Try.prog 17 #[.float .f64 b] w fun e w' => e = .returned (.float .f64 b) ∧ w = w' := by
  have h1 := run_archTrunc b h
  go_enter Try.func17, Try.ntmps17
  go_wp2_with fail
  go_ret
  exact ⟨rfl, rfl⟩
set_option maxHeartbeats 2000000 in
set_option maxRecDepth 100000 in
theorem wholeP_is (b : Nat) (w : World) (h : WhB b) : Calls Try.prog 16 #[.float .f64 b] w fun e w' => e = .returned (.bool true) ∧ w = w' := by
  have h' := h
  unfold WhB whB at h'
  simp only [Bool.and_eq_true, beq_iff_eq] at h'
  obtain ⟨⟨⟨o1, o2⟩, o3⟩, -⟩ := h'
  go_enter Try.func16, Try.ntmps16
  go_wp2_with (go_at_call 17; refine (Trunc_is _ _ h).mono ?_; rintro e w1 ⟨rfl, rfl⟩)
  go_ret
  exact ⟨rfl, rfl⟩
set_option maxHeartbeats 2000000 in
set_option maxRecDepth 100000 in
theorem whole_is (a b : Nat) (w : World) (h : WhB a) (k : WhB b) : Calls Try.prog 13 #[.complex .f64 a b] w fun e w' => e = .returned (.bool true) ∧ w = w' := by
  go_enter Try.func13, Try.ntmps13
  go_wp2_with (go_at_call 16; refine (wholeP_is _ _ (by first | exact h | exact k)).mono ?_; rintro e w1 ⟨rfl, rfl⟩)
  go_ret
  exact ⟨rfl, rfl⟩
set_option maxHeartbeats 2000000 in
set_option maxRecDepth 100000 in
theorem whole1_is (a b : Nat) (w : World) (h : WhB a) (k : WhB b) : Calls Try.prog 12 #[.complex .f64 a b] w fun e w' => e = .returned (.bool false) ∧ w = w' := by
  go_enter Try.func12, Try.ntmps12
  go_wp2_with (go_at_call 13; refine (whole_is _ _ _ h k).mono ?_; rintro e w1 ⟨rfl, rfl⟩)
  go_ret
  exact ⟨rfl, rfl⟩
end Go.Proofs.Ytjkbjnmekbhllab
