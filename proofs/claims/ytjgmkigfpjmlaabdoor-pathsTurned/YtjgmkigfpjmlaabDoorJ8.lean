/-
  Only of a graph; Turn and Only themselves.
-/
import Derived.Test.YtjgmkigfpjmlaabDoorJ7
namespace Go.Proofs.YtjgmkigfpjmlaabDoor
set_option linter.unusedVariables false
set_option linter.unusedSimpArgs false
open Go.RowKit

set_option maxRecDepth 100000 in
theorem turn_is (b n r : Nat) (bk ck : Nat → Nat) (L : Nat → Nat → Nat) (w : World) (h : Graph w b n r bk ck L) (hT : Tab w) :
    Calls Tryd.prog 26 #[.pointer (some ⟨b, 0, none⟩)] w fun e w' => (∃ b' r' bk' ck', e = .returned (.pointer (some ⟨b', 0, none⟩)) ∧ Graph w' b' n r' bk' ck' (((allE L n n).map fun e => (e.2.1, e.1, e.2.2)).foldl (stepE n) (fun _ _ => 0)) ∧ ∀ k, k < 4 * n → w.heap.size ≤ ck' k) ∧ Below w.heap.size w w' := by
  have H := hid (redrawT b n r bk ck L w h hT)
  clear h hT
  go_enter Tryd.func26, Tryd.ntmps26
  go_wp2_with fail
  refine H.out.mono ?_
  rintro e w' ⟨⟨b', r', bk', ck', rfl, h1, h2⟩, h3⟩
  have G1 := hid h1
  have L1 := hid h2
  have B1 := hid h3
  clear h1 h2 h3 H
  go_wp2_with fail
  go_ret
  first | exact ⟨⟨_, rfl, r', bk', ck', G1.out, L1.out⟩, B1.out⟩ | exact ⟨⟨_, r', bk', ck', rfl, G1.out, L1.out⟩, B1.out⟩
end Go.Proofs.YtjgmkigfpjmlaabDoor
