/-
  Two graphs that are alike.
-/
import Derived.Test.YtbcegdiabnapkabDoorI1
import Derived.Deep.CutRange
import Derived.Deep.RegionHeld3
import Derived.Deep.RegionWith
namespace Go.Proofs.YtbcegdiabnapkabDoor
set_option linter.unusedVariables false
set_option linter.unusedSimpArgs false
open Go.RowKit

/-- A graph's edges, as numbers of the program. -/
def ed (L : Nat → Nat → Nat) (n : Nat) : List (Int × Int × Int) := (allE L n n).map intE
theorem ed_len (L : Nat → Nat → Nat) (n : Nat) (hn : n ≤ 300) : (ed L n).length ≤ 1000000 := by
  unfold ed
  rw [List.length_map]
  have h1 := allE_len L n n
  have h2 : n * n ≤ 300 * 300 := Nat.mul_le_mul hn hn
  omega
theorem edges_ed (b n r : Nat) (bk ck : Nat → Nat) (L : Nat → Nat → Nat) (w : World) (h : Graph w b n r bk ck L) (hT : Tab w) :
    Calls Tryd.prog 6 #[.pointer (some ⟨b, 0, none⟩)] w fun e w' => (∃ ao cp, e = .returned (.slice ao (ed L n).length cp) ∧ ArgE w' ao (ed L n)) ∧ Below w.heap.size w w' := by
  refine (edges_is b n r bk ck L w h hT).mono ?_
  rintro e w' ⟨⟨v, rfl, hI⟩, bl⟩
  obtain ⟨ao, cp, hv, hA⟩ := hI.arg
  exact ⟨⟨ao, cp, by rw [hv]; rfl, hA⟩, bl⟩
theorem redges_ed (b n : Nat) (v : Value) (rw' : Nat → Nat) (L : Nat → Nat → Nat) (w : World) (h : RefG w b n v rw' L) :
    Calls Tryd.prog 8 #[.pointer (some ⟨b, 0, none⟩)] w fun e w' => (∃ ao cp, e = .returned (.slice ao (ed L n).length cp) ∧ ArgE w' ao (ed L n)) ∧ Below w.heap.size w w' := by
  refine (redges_is b n v rw' L w h).mono ?_
  rintro e w' ⟨⟨v, rfl, hI⟩, bl⟩
  obtain ⟨ao, cp, hv, hA⟩ := hI.arg
  exact ⟨⟨ao, cp, by rw [hv]; rfl, hA⟩, bl⟩
end Go.Proofs.YtbcegdiabnapkabDoor
