/-
  Which histories may be: the plain part; walks of the code's canOp, canEvent and Can and of the reference's MayOp.
-/
import Derived.Test.YtlkmciegpmpbbaaDoorHKey
import Derived.Test.YtlkmciegpmpbbaaDoorHSame
namespace Go.Proofs.YtlkmciegpmpbbaaDoor
set_option linter.unusedVariables false
set_option linter.unusedSimpArgs false
open Go.RowKit

abbrev len (o : MOp) : Int := ((o.list.length : Nat) : Int)
/-- An operation may be, its key left aside. -/
def opOk (o : MOp) : Bool :=
  if o.kind == 1 || o.kind == 3 then (len o == 0) && (!o.has && !o.nl)
  else if o.kind == 2 then (o.value == 0) && (!o.nl && (decide (len o ≤ 40) && (o.has || (len o == 0))))
  else if o.kind == 4 then (len o == 0) && ((o.has || !o.nl) && ((o.has && !o.nl) || (o.value == 0)))
  else false

theorem len40 (l : List Int) : (((l.length : Nat) : Int) ≤ 40 ∧ Hid (decide (((l.length : Nat) : Int) ≤ 40) = true)) ∨ (¬ ((l.length : Nat) : Int) ≤ 40 ∧ Hid (decide (((l.length : Nat) : Int) ≤ 40) = false)) := by
  by_cases h : ((l.length : Nat) : Int) ≤ 40
  · exact .inl ⟨h, decide_eq_true h⟩
  · exact .inr ⟨h, decide_eq_false h⟩

end Go.Proofs.YtlkmciegpmpbbaaDoor
