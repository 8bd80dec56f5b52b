/-
  Arguments: a slice of calls that was handed in.
-/
import Derived.Test.YtpkfpfflnncleaaDoorArg
import Derived.Test.YtpkfpfflnncleaaDoorR4
import Derived.Deep.Slices
namespace Go.Proofs.YtpkfpfflnncleaaDoor
set_option linter.unusedVariables false
set_option linter.unusedSimpArgs false
open Go.ChangeShapes Go.WideShapes Go.ChangeAt Go.RowKit

theorem Tryd.cells3 : Tryd.prog.cellsOf 3 = 1 := by kernel_rfl
theorem Tryd.cells31 : Tryd.prog.cellsOf 31 = 2 := by kernel_rfl

section
variable {H : Type} {enc : TypeId × Value → H} {w : World} {base : Nat} {spare : Nat → Bool} {held : Bool}

set_option maxRecDepth 10000 in
theorem do_of_trod (n : Nat) (cs : List Value) (y : DataW H × List MemPlace) (hlen : cs.length = 2) (h : DataW.trod enc Tryd.prog w base spare held n 31 cs = some y) :
    ∃ d : Int × Int, cs = [.int .i64 d.1, .int .i64 d.2] := by
  obtain ⟨xs, m, rfl, rfl, _, hxl, hf⟩ := DataW.trod_struct Tryd.underlying31 h
  match cs, hlen with
  | [c0, c1], _ =>
    match xs, hxl with
    | [x0, x1], _ =>
      have f0 := hf 0 _ rfl
      have f1 := hf 1 _ rfl
      simp [Tryd.cells3] at f0 f1
      obtain ⟨k, e0, g0, _⟩ := DataW.trod_int Tryd.underlying3 f0
      obtain ⟨p, e1, g1, _⟩ := DataW.trod_int Tryd.underlying3 f1
      simp at e0 e1
      subst e0 e1
      exact ⟨(k, p), rfl⟩

theorem arg_dos {a : Option Addr} {len cap : Nat} {d : DataW H} {p : List MemPlace} (h : DataW.Trod enc Tryd.prog w base spare held 22 (.slice a len cap) d p) :
    ∃ ds : List (Int × Int), ds.length = len ∧ ArgDo w a ds ∧ ds.length ≤ maxLen := by
  obtain ⟨fuel, hf⟩ := h
  rcases Deep.open_slice Tryd.underlying22 hf with ⟨hcs, hx0⟩ | ⟨x, l, c, m, n, D, Pl, hcs, hb, hl, hm, hmm, hx0, hx⟩
  · simp [Value.cells] at hcs
    obtain ⟨rfl, rfl, rfl⟩ := hcs
    exact ⟨[], rfl, fun j hj => by simp at hj, by simp⟩
  · simp [Value.cells] at hcs
    obtain ⟨rfl, rfl, rfl⟩ := hcs
    have hlm : len ≤ m := by rw [hmm]; split <;> omega
    rw [Tryd.cells31] at hx
    have key : ∀ i, i < len → ∃ d : Int × Int, w.cell? (x.add (i * 2)) = some (.int .i64 d.1) ∧ w.cell? (x.add (i * 2 + 1)) = some (.int .i64 d.2) := fun i hi => by
      obtain ⟨cs', h1, h2⟩ := hx i (by omega)
      obtain ⟨_, hlen, hc⟩ := World.cells?_some h1
      obtain ⟨t, e1⟩ := do_of_trod n cs' _ hlen h2
      subst e1
      refine ⟨t, ?_, ?_⟩
      · have := hc 0 (by omega)
        rw [Deep.add_add] at this
        simpa using this
      · have := hc 1 (by omega)
        rw [Deep.add_add] at this
        simpa using this
    obtain ⟨f, hf2⟩ := Deep.choose_lt (α := Int × Int) key
    refine ⟨(List.range len).map f, by simp, fun j hj => ?_, by simp; omega⟩
    simp only [List.length_map, List.length_range] at hj
    obtain ⟨b, off, spot⟩ := x
    have hspot : spot = none := by
      obtain ⟨h3, _⟩ := hf2 0 (by omega)
      simpa [Addr.add] using World.cell?_spot h3
    subst hspot
    obtain ⟨h3, h4⟩ := hf2 j hj
    have hgd : ((List.range len).map f).getD j (0, 0) = f j := by simp [List.getD, hj]
    rw [hgd]
    refine ⟨b, off, rfl, ?_, ?_⟩
    · rw [Addr.add_lit] at h3
      exact h3
    · rw [Addr.add_lit] at h4
      simpa [Nat.add_assoc] using h4
end
end Go.Proofs.YtpkfpfflnncleaaDoor
