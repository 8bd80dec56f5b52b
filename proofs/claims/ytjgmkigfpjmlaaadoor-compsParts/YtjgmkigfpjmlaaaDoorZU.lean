/-
  A start that fits the rows: the listed package variable holds what the library's text lays; and what the list gives of it.
-/
import Derived.ProofKit
import Derived.LaidLaws
import Derived.Stop.LaidErr
import Derived.Deep.DeepHandedRow
import Derived.Deep.DeepWitnessRowRef
import Derived.Lib.LaidTab
import Derived.OpenShut
import Derived.ChangeOld
import Derived.Deep.Slices
import Derived.Test.YtjgmkigfpjmlaaaDoorRows
import Derived.Test.YtjgmkigfpjmlaaaDoorZB
import Derived.Test.YtjgmkigfpjmlaaaDoorZE
namespace Go.Proofs.YtjgmkigfpjmlaaaDoor
set_option linter.unusedVariables false
set_option linter.unusedSimpArgs false
open Go.ChangeShapes Go.WideShapes Go.ChangeAt Go.RowKit

theorem Tryd.own : ownKnob Tryd.prog.godebug = none := by kernel_rfl

/-- A block's cells laid anew. -/
def put (h : Array Obj) (g : Nat) (cs : Array Value) : Array Obj := h.modify g fun
  | .cells _ t frozen => .cells cs t frozen
  | o => o
/-- The library's table. -/
def tab64 : List Int := [0, 1, 56, 2, 57, 49, 28, 3, 61, 58, 42, 50, 38, 29, 17, 4, 62, 47, 59, 36, 45, 43, 51, 22, 53, 39, 33, 30, 24, 18, 12, 5, 63, 55, 48, 27, 60, 41, 37, 16, 46, 35, 44, 21, 52, 32, 23, 11, 54, 26, 40, 15, 34, 20, 31, 10, 25, 14, 19, 9, 13, 8, 7, 6]
end Go.Proofs.YtjgmkigfpjmlaaaDoor

/-
  Arguments: a slice of numbers that was handed in; and what the list of laid variables gives of the library's table.
-/
namespace Go.Proofs.YtjgmkigfpjmlaaaDoor
set_option linter.unusedVariables false
set_option linter.unusedSimpArgs false
open Go.ChangeShapes Go.WideShapes Go.ChangeAt Go.RowKit

theorem Tryd.laidOut : laidOutB Tryd.prog = true := by kernel_rfl

theorem tab_of {W : World} (h : laidMet Tryd.prog Rows.compsLeadsRow.laid W) : Tab W := by
  have h1 := Lib.tabIs_of_head (P := Tryd.prog) (W := W) (name := "math/bits.deBruijn64tab") (k := .u8) (zs := tab64) (rest := []) (g := 0) (t := 133) (e := 5) (n := 64) (by kernel_rfl) (by kernel_rfl) Tryd.underlying133 Tryd.underlying5 (by kernel_rfl) (by kernel_rfl) h
  intro j hj
  have h2 := h1.cell (g := 0) (by kernel_rfl) j hj
  rw [h2]
  have e : ∀ j, j < 64 → (tab64.getD j 0 : Int) = ((Lib.deBruijn64tab.getD j 0 : Nat) : Int) := by decide +kernel
  rw [e j hj]
end Go.Proofs.YtjgmkigfpjmlaaaDoor

/-
  Arguments: a slice of edges that was handed in.
-/
namespace Go.Proofs.YtjgmkigfpjmlaaaDoor
set_option linter.unusedVariables false
set_option linter.unusedSimpArgs false
open Go.ChangeShapes Go.WideShapes Go.ChangeAt Go.RowKit

theorem Tryd.one3 : Tryd.prog.cellsOf 3 = 1 := by kernel_rfl
theorem Tryd.three80 : Tryd.prog.cellsOf 45 = 3 := by kernel_rfl

section
variable {H : Type} {enc : TypeId × Value → H} {w : World} {base : Nat} {spare : Nat → Bool} {held : Bool}

set_option maxRecDepth 10000 in
theorem edge_of_trod (n : Nat) (cs : List Value) (y : DataW H × List MemPlace) (hlen : cs.length = 3) (h : DataW.trod enc Tryd.prog w base spare held n 45 cs = some y) :
    ∃ d : Int × Int × Int, cs = [.int .i64 d.1, .int .i64 d.2.1, .int .i64 d.2.2] := by
  obtain ⟨xs, m, rfl, rfl, _, hxl, hf⟩ := DataW.trod_struct Tryd.underlying45 h
  match cs, hlen with
  | [c0, c1, c2], _ =>
    match xs, hxl with
    | [x0, x1, x2], _ =>
      have f0 := hf 0 _ rfl
      have f1 := hf 1 _ rfl
      have f2 := hf 2 _ rfl
      simp [Tryd.one3] at f0 f1 f2
      obtain ⟨k, e0, g0, _⟩ := DataW.trod_int Tryd.underlying3 f0
      obtain ⟨p, e1, g1, _⟩ := DataW.trod_int Tryd.underlying3 f1
      obtain ⟨q, e2, g2, _⟩ := DataW.trod_int Tryd.underlying3 f2
      simp at e0 e1 e2
      subst e0 e1 e2
      exact ⟨(k, p, q), rfl⟩

theorem arg_edges {a : Option Addr} {len cap : Nat} {d : DataW H} {p : List MemPlace} (h : DataW.Trod enc Tryd.prog w base spare held 22 (.slice a len cap) d p) :
    ∃ es : List (Int × Int × Int), es.length = len ∧ ArgE w a es ∧ es.length ≤ maxLen := by
  obtain ⟨fuel, hf⟩ := h
  rcases Deep.open_slice Tryd.underlying22 hf with ⟨hcs, hx0⟩ | ⟨x, l, c, m, n, D, Pl, hcs, hb, hl, hm, hmm, hx0, hx⟩
  · simp [Value.cells] at hcs
    obtain ⟨rfl, rfl, rfl⟩ := hcs
    exact ⟨[], rfl, fun j hj => by simp at hj, by simp⟩
  · simp [Value.cells] at hcs
    obtain ⟨rfl, rfl, rfl⟩ := hcs
    have hlm : len ≤ m := by rw [hmm]; split <;> omega
    rw [Tryd.three80] at hx
    have key : ∀ i, i < len → ∃ d : Int × Int × Int, w.cell? (x.add (i * 3)) = some (.int .i64 d.1) ∧ w.cell? (x.add (i * 3 + 1)) = some (.int .i64 d.2.1) ∧ w.cell? (x.add (i * 3 + 2)) = some (.int .i64 d.2.2) := fun i hi => by
      obtain ⟨cs', h1, h2⟩ := hx i (by omega)
      obtain ⟨_, hlen, hc⟩ := World.cells?_some h1
      obtain ⟨t, e1⟩ := edge_of_trod n cs' _ hlen h2
      subst e1
      refine ⟨t, ?_, ?_, ?_⟩
      · have := hc 0 (by omega)
        rw [Deep.add_add] at this
        simpa using this
      · have := hc 1 (by omega)
        rw [Deep.add_add] at this
        simpa using this
      · have := hc 2 (by omega)
        rw [Deep.add_add] at this
        simpa using this
    obtain ⟨f, hf2⟩ := Deep.choose_lt (α := Int × Int × Int) key
    refine ⟨(List.range len).map f, by simp, fun j hj => ?_, by simp; omega⟩
    simp only [List.length_map, List.length_range] at hj
    obtain ⟨b, off, spot⟩ := x
    have hspot : spot = none := by
      obtain ⟨h3, _⟩ := hf2 0 (by omega)
      simpa [Addr.add] using World.cell?_spot h3
    subst hspot
    obtain ⟨h3, h4, h5⟩ := hf2 j hj
    have hgd : ((List.range len).map f).getD j (0, 0, 0) = f j := by simp [List.getD, hj]
    rw [hgd]
    refine ⟨b, off, rfl, ?_, ?_, ?_⟩
    · rw [Addr.add_lit] at h3
      exact h3
    · rw [Addr.add_lit] at h4
      simpa [Nat.add_assoc] using h4
    · rw [Addr.add_lit] at h5
      simpa [Nat.add_assoc] using h5
end
end Go.Proofs.YtjgmkigfpjmlaaaDoor
