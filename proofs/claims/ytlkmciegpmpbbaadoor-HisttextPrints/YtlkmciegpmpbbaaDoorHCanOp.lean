/-
  Walk of the code's canOp.
-/
import Derived.Test.YtlkmciegpmpbbaaDoorHCan
namespace Go.Proofs.YtlkmciegpmpbbaaDoor
set_option linter.unusedVariables false
set_option linter.unusedSimpArgs false
open Go.RowKit

set_option maxHeartbeats 4000000 in
set_option maxRecDepth 100000 in
/-- The code's canOp. -/
theorem canOp_any {S : Nat → Prop} (o : MOp) (lv : Value) (w : World) (h : IntsIn S w lv o.list) :
    Calls Tryd.prog 38 #[.agg #[.int .i64 o.kind, .string o.key, .int .i64 o.value, lv, .bool o.has, .bool o.nl]] w fun e w' => e = .returned (.bool (opOk o)) ∧ Below w.heap.size w w' := by
  obtain ⟨k, s, v, l, hs, nl⟩ := o
  obtain ⟨a1, c1, rfl, -⟩ := id h
  clear h
  simp only [MOp.kind, MOp.key, MOp.value, MOp.list, MOp.has, MOp.nl] at *
  have HB : Hid (Below w.heap.size w (w.alloc (.cells #[.int .i64 k, .string s, .int .i64 v, .slice a1 l.length c1, .bool hs, .bool nl] 34))) := (Below.refl _ w).alloc (Nat.le_refl _) _
  by_cases k1 : k = 1
  · subst k1
    cases q1 : (((l.length : Nat) : Int) == 0) <;> cases hs <;> cases nl <;>
    · go_enter Tryd.func38, Tryd.ntmps38
      go_wp2_with fail
      go_ret
      exact ⟨ret_b (by simp only [opOk, len, MOp.kind, MOp.value, MOp.list, MOp.has, MOp.nl, q1]; rfl), HB.out⟩
  by_cases k3 : k = 3
  · subst k3
    cases q1 : (((l.length : Nat) : Int) == 0) <;> cases hs <;> cases nl <;>
    · go_enter Tryd.func38, Tryd.ntmps38
      go_wp2_with fail
      go_ret
      exact ⟨ret_b (by simp only [opOk, len, MOp.kind, MOp.value, MOp.list, MOp.has, MOp.nl, q1]; rfl), HB.out⟩
  by_cases k2 : k = 2
  · subst k2
    cases q2 : (v == 0) <;> cases q1 : (((l.length : Nat) : Int) == 0) <;> rcases len40 l with ⟨q4, Q5⟩ | ⟨q4, Q5⟩ <;> cases hs <;> cases nl <;>
    · go_enter Tryd.func38, Tryd.ntmps38
      go_wp2_with fail
      go_ret
      exact ⟨ret_b (by simp only [opOk, len, MOp.kind, MOp.value, MOp.list, MOp.has, MOp.nl, q1, q2, Q5.out]; rfl), HB.out⟩
  by_cases k4 : k = 4
  · subst k4
    cases q2 : (v == 0) <;> cases q1 : (((l.length : Nat) : Int) == 0) <;> cases hs <;> cases nl <;>
    · go_enter Tryd.func38, Tryd.ntmps38
      go_wp2_with fail
      go_ret
      exact ⟨ret_b (by simp only [opOk, len, MOp.kind, MOp.value, MOp.list, MOp.has, MOp.nl, q1, q2]; rfl), HB.out⟩
  · have e1 : (k == 1) = false := by simpa using k1
    have e2 : (k == 2) = false := by simpa using k2
    have e3 : (k == 3) = false := by simpa using k3
    have e4 : (k == 4) = false := by simpa using k4
    have R : Hid (opOk (k, s, v, l, hs, nl) = false) := by show opOk _ = _; simp [opOk, MOp.kind, e1, e2, e3, e4]
    go_enter Tryd.func38, Tryd.ntmps38
    go_wp2_with fail
    go_ret
    exact ⟨ret_b R.out, HB.out⟩
end Go.Proofs.YtlkmciegpmpbbaaDoor
