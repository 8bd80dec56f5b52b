/-
  Arguments: a slice of numbers that was handed in; and what the list of laid variables gives of the library's table.
-/
import Derived.Test.YtpkfpfflnncleaaDoorStart
import Derived.Test.YtpkfpfflnncleaaDoorB10
import Derived.Lib.LaidTab
import Derived.OpenShut
import Derived.ChangeOld
namespace Go.Proofs.YtpkfpfflnncleaaDoor
set_option linter.unusedVariables false
set_option linter.unusedSimpArgs false
open Go.ChangeShapes Go.WideShapes Go.ChangeAt Go.RowKit

theorem Tryd.laidOut : laidOutB Tryd.prog = true := by kernel_rfl

theorem arg_ints {H : Type} {enc : TypeId × Value → H} {W : World} {base : Nat} {a : Option Addr} {len cap : Nat} {d : DataW H} {p : List MemPlace} {held : Bool}
    (hv : Value.okWide Tryd.prog W .any base 42 (.slice a len cap)) (h : DataW.Trod enc Tryd.prog W 0 (fun _ => true) held 42 (.slice a len cap) d p) :
    ∃ zs : List Int, zs.length = len ∧ ArgIn W a zs ∧ zs.length ≤ maxLen := by
  obtain ⟨fuel, hf⟩ := h
  rcases open_ints Tryd.underlying42 Tryd.underlying3 (by kernel_rfl) hf with ⟨hcs, _⟩ | ⟨x, l, c, zs, hcs, _, hl, hm, hz, _, hcell, hwz⟩
  · simp [Value.cells] at hcs
    obtain ⟨rfl, rfl, rfl⟩ := hcs
    exact ⟨[], rfl, fun j hj => by simp at hj, by simp⟩
  · simp [Value.cells] at hcs
    obtain ⟨rfl, rfl, rfl⟩ := hcs
    have hz' : zs.length = cap := by simpa using hz
    refine ⟨zs.take len, by rw [List.length_take]; omega, fun j hj => ?_, by rw [List.length_take]; omega⟩
    have hj' : j < len := by rw [List.length_take] at hj; omega
    have hc := hcell j (by omega)
    obtain ⟨b, off, spot⟩ := x
    have hspot : spot = none := by simpa [Addr.add] using World.cell?_spot (hcell 0 (by omega))
    subst hspot
    have hadd : (⟨b, off, none⟩ : Addr).add j = ⟨b, off + j, none⟩ := by unfold Addr.add; split <;> simp_all
    rw [hadd] at hc
    refine ⟨b, off, rfl, hc.trans ?_⟩
    have e : (zs.take len).getD j 0 = zs.getD j 0 := by
      rw [List.getD_eq_getElem?_getD, List.getD_eq_getElem?_getD, List.getElem?_take, if_pos hj']
    rw [e]

theorem tab_of {W : World} (h : laidMet Tryd.prog Rows.bitsEdgesRow.laid W) : Tab W := by
  have h1 := Lib.tabIs_of_head (P := Tryd.prog) (W := W) (name := "math/bits.deBruijn64tab") (k := .u8) (zs := tab64) (rest := []) (g := 0) (t := 90) (e := 5) (n := 64) (by kernel_rfl) (by kernel_rfl) Tryd.underlying90 Tryd.underlying5 (by kernel_rfl) (by kernel_rfl) h
  intro j hj
  have h2 := h1.cell (g := 0) (by kernel_rfl) j hj
  rw [h2]
  have e : ∀ j, j < 64 → (tab64.getD j 0 : Int) = ((Lib.deBruijn64tab.getD j 0 : Nat) : Int) := by decide +kernel
  rw [e j hj]
end Go.Proofs.YtpkfpfflnncleaaDoor
