/-
  Arguments: a slice of dependencies that was handed in.
-/
import Derived.Test.YtbcegdiabnapkabDoorArg
import Derived.Test.YtbcegdiabnapkabDoorD8
import Derived.Deep.Slices
namespace Go.Proofs.YtbcegdiabnapkabDoor
set_option linter.unusedVariables false
set_option linter.unusedSimpArgs false
open Go.ChangeShapes Go.WideShapes Go.ChangeAt Go.RowKit

theorem Tryd.cells3 : Tryd.prog.cellsOf 3 = 1 := by kernel_rfl
theorem Tryd.cells4 : Tryd.prog.cellsOf 4 = 1 := by kernel_rfl
theorem Tryd.cells9 : Tryd.prog.cellsOf 9 = 1 := by kernel_rfl
theorem Tryd.cells32 : Tryd.prog.cellsOf 32 = 8 := by kernel_rfl

section
variable {H : Type} {enc : TypeId × Value → H} {w : World} {base : Nat} {spare : Nat → Bool} {held : Bool}
set_option maxRecDepth 10000 in
/-- A dependency's eight cells. -/
theorem why_of_trod (n : Nat) (cs : List Value) (y : DataW H × List MemPlace) (hlen : cs.length = 8) (h : DataW.trod enc Tryd.prog w base spare held n 32 cs = some y) : ∃ x : MW, cs = encW x := by
  obtain ⟨xs, m, rfl, rfl, _, hxl, hf⟩ := DataW.trod_struct Tryd.underlying32 h
  match cs, hlen with
  | [c0, c1, c2, c3, c4, c5, c6, c7], _ =>
    match xs, hxl with
    | [x0, x1, x2, x3, x4, x5, x6, x7], _ =>
      have f0 := hf 0 _ rfl
      have f1 := hf 1 _ rfl
      have f2 := hf 2 _ rfl
      have f3 := hf 3 _ rfl
      have f4 := hf 4 _ rfl
      have f5 := hf 5 _ rfl
      have f6 := hf 6 _ rfl
      have f7 := hf 7 _ rfl
      simp [Tryd.cells3, Tryd.cells4, Tryd.cells9] at f0 f1 f2 f3 f4 f5 f6 f7
      obtain ⟨y0, e0, _⟩ := DataW.trod_int Tryd.underlying3 f0
      obtain ⟨y1, e1, _⟩ := DataW.trod_int Tryd.underlying3 f1
      obtain ⟨y2, e2, _⟩ := DataW.trod_int Tryd.underlying3 f2
      obtain ⟨y3, e3, _⟩ := DataW.trod_string Tryd.underlying9 f3
      obtain ⟨y4, e4, _⟩ := DataW.trod_int Tryd.underlying3 f4
      obtain ⟨y5, e5, _⟩ := DataW.trod_int Tryd.underlying3 f5
      obtain ⟨y6, e6, _⟩ := DataW.trod_bool Tryd.underlying4 f6
      obtain ⟨y7, e7, _⟩ := DataW.trod_bool Tryd.underlying4 f7
      simp at e0 e1 e2 e3 e4 e5 e6 e7
      subst e0 e1 e2 e3 e4 e5 e6 e7
      exact ⟨(y0, y1, y2, y3, y4, y5, y6, y7), rfl⟩
/-- A slice of them. -/
theorem whys_of_trod {fuel : Nat} {a : Option Addr} {len cap : Nat} {x : DataW H × List MemPlace} (h : DataW.trod enc Tryd.prog w base spare held fuel 22 [.slice a len cap] = some x) : ∃ f, Lw w a len f ∧ len ≤ maxLen := by
  rcases Deep.open_slice Tryd.underlying22 h with ⟨hcs, hx0⟩ | ⟨y, l, c, m, n, D, Pl, hcs, hb, hl, hm, hmm, hx0, hx⟩
  · simp at hcs
    obtain ⟨rfl, rfl, rfl⟩ := hcs
    exact ⟨fun _ => default, fun j hj => by omega, by simp⟩
  · simp at hcs
    obtain ⟨rfl, rfl, rfl⟩ := hcs
    have hlm : len ≤ m := by rw [hmm]; split <;> omega
    rw [Tryd.cells32] at hx
    have key : ∀ i, i < len → ∃ q : MW, ∀ j, j < 8 → w.cell? (y.add (i * 8 + j)) = (encW q)[j]? := fun i hi => by
      obtain ⟨cs', h1, h2⟩ := hx i (by omega)
      obtain ⟨_, hlen, hc⟩ := World.cells?_some h1
      obtain ⟨q, rfl⟩ := why_of_trod n cs' _ hlen h2
      exact ⟨q, fun j hj => by rw [← Deep.add_add]; exact hc j hj⟩
    obtain ⟨f, hf⟩ := Deep.choose_lt (α := MW) key
    refine ⟨f, fun j hj => ?_, by omega⟩
    obtain ⟨b, off, spot⟩ := y
    have hspot : spot = none := by
      have := hf 0 (by omega) 0 (by omega)
      simpa [Addr.add] using World.cell?_spot (this.trans (List.getElem?_eq_getElem (by rw [encW_len]; omega)))
    subst hspot
    have hcell : ∀ i u, (encW (f j))[i]? = some u → w.cell? ⟨b, off + j * 8 + i, none⟩ = some u := fun i u hi => by
      have hi8 : i < 8 := by have := (List.getElem?_eq_some_iff.1 hi).1; rwa [encW_len] at this
      have := hf j hj i hi8
      rw [Addr.add_lit, hi] at this
      simpa [Nat.add_assoc] using this
    exact ⟨b, off, rfl, World.block_lt_of_cell? _ _ (hcell 0 _ rfl), hcell⟩
end


theorem dglaw_any (n : Int) (ao : Option Addr) (c len : Nat) (f : Nat → MW) (w : World) (hl : Lw w ao len f) (hlen : len ≤ maxLen) (hT : Tab w) : Calls Tryd.prog 3 #[.int .i64 n, .slice ao len c] w fun e w' => e = .returned (.bool true) ∧ Below w.heap.size w w' := by
  by_cases hn : n < 0 ∨ 300 < n
  · exact dglaw_no n hn ao c len w
  · obtain ⟨N, rfl⟩ : ∃ N : Nat, n = N := ⟨n.toNat, by omega⟩
    exact dglaw_is N (by omega) ao c len f w hl hlen hT
end Go.Proofs.YtbcegdiabnapkabDoor
