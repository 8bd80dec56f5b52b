/-
  Equal lists of edges.
-/
import Derived.Test.YtbcegdiabnapkabDoorH4
namespace Go.Proofs.YtbcegdiabnapkabDoor
set_option linter.unusedVariables false
set_option linter.unusedSimpArgs false
open Go.RowKit

/-- A slice of edges that can be read. -/
def ArgE (w : World) (ao : Option Addr) (es : List (Int × Int × Int)) : Prop :=
  ∀ j, j < es.length → ∃ b off, ao = some ⟨b, off, none⟩ ∧ w.cell? ⟨b, off + j * 3, none⟩ = some (.int .i64 (es.getD j (0, 0, 0)).1) ∧ w.cell? ⟨b, off + j * 3 + 1, none⟩ = some (.int .i64 (es.getD j (0, 0, 0)).2.1) ∧ w.cell? ⟨b, off + j * 3 + 2, none⟩ = some (.int .i64 (es.getD j (0, 0, 0)).2.2)
theorem ArgE.later {w w' : World} {ao : Option Addr} {es : List (Int × Int × Int)} (h : ArgE w ao es) (hb : Below w.heap.size w w') : ArgE w' ao es := fun j hj => by
  obtain ⟨b, off, e, h0, h1, h2⟩ := h j hj
  exact ⟨b, off, e, (hb.cell (p := ⟨b, off + j * 3, none⟩) (World.block_lt_of_cell? _ _ h0)).trans h0, (hb.cell (p := ⟨b, off + j * 3 + 1, none⟩) (World.block_lt_of_cell? _ _ h1)).trans h1, (hb.cell (p := ⟨b, off + j * 3 + 2, none⟩) (World.block_lt_of_cell? _ _ h2)).trans h2⟩
def intE (e : Nat × Nat × Nat) : Int × Int × Int := (e.1, e.2.1, e.2.2)
theorem edgesV_at (l : List (Nat × Nat × Nat)) (j : Nat) (hj : j < l.length) : (edgesV l)[3 * j]? = some (.int .i64 (l.getD j (0, 0, 0)).1) ∧ (edgesV l)[3 * j + 1]? = some (.int .i64 (l.getD j (0, 0, 0)).2.1) ∧ (edgesV l)[3 * j + 2]? = some (.int .i64 (l.getD j (0, 0, 0)).2.2) := by
  induction l generalizing j with
  | nil => simp at hj
  | cons e l ih =>
    have e0 : edgesV (e :: l) = edgeV e ++ edgesV l := by unfold edgesV; simp
    rw [e0]
    cases j with
    | zero => simp [edgeV]
    | succ j =>
      have hl : (edgeV e).length = 3 := rfl
      obtain ⟨h0, h1, h2⟩ := ih j (by simp at hj; omega)
      have a0 : 3 * (j + 1) = (edgeV e).length + 3 * j := by omega
      have a1 : 3 * (j + 1) + 1 = (edgeV e).length + (3 * j + 1) := by omega
      have a2 : 3 * (j + 1) + 2 = (edgeV e).length + (3 * j + 2) := by omega
      rw [a0]
      rw [a0] at a1 a2
      rw [a1, a2]
      simp only [List.getElem?_append_right (Nat.le_add_right _ _), Nat.add_sub_cancel_left]
      simpa using ⟨h0, h1, h2⟩
theorem EdgesIn.arg {B : Nat} {w : World} {v : Value} {l : List (Nat × Nat × Nat)} (h : EdgesIn B w v l) : ∃ ao c, v = .slice ao (l.map intE).length c ∧ ArgE w ao (l.map intE) := by
  rcases h.2 with ⟨hv, hn⟩ | ⟨g, cap, cur, hv, hB, hg, hnc, hm, hs, ht⟩
  · refine ⟨none, 0, by rw [hv, List.length_map, hn], fun j hj => ?_⟩
    rw [List.length_map] at hj
    omega
  · refine ⟨_, _, by rw [hv, List.length_map], fun j hj => ⟨g, 0, rfl, ?_⟩⟩
    rw [List.length_map] at hj
    obtain ⟨h0, h1, h2⟩ := edgesV_at l j hj
    have eg : (l.map intE).getD j (0, 0, 0) = intE (l.getD j (0, 0, 0)) := by
      simp [List.getD, hj]
    rw [eg]
    rw [← ht, List.getElem?_take] at h0 h1 h2
    split at h0
    · split at h1
      · split at h2
        · refine ⟨?_, ?_, ?_⟩
          · rw [Nat.zero_add, Lib.cell_of_heap hg]
            simpa [Nat.mul_comm, intE] using h0
          · rw [Nat.zero_add, Lib.cell_of_heap hg]
            simpa [Nat.mul_comm, intE] using h1
          · rw [Nat.zero_add, Lib.cell_of_heap hg]
            simpa [Nat.mul_comm, intE] using h2
        · cases h2
      · cases h1
    · cases h0

set_option maxHeartbeats 4000000 in
theorem equal_edges (a1 a2 : Option Addr) (c1 c2 : Nat) (l : List (Int × Int × Int)) (w : World) (h1 : ArgE w a1 l) (h2 : ArgE w a2 l) (hl : l.length ≤ 1000000) :
    Calls Tryd.prog 7 #[.slice a1 l.length c1, .slice a2 l.length c2] w fun e w' => e = .returned (.bool true) ∧ ∃ q, w' = w.drewN q := by
  have H1 := hid h1
  have H2 := hid h2
  clear h1 h2
  have hlen : (l.length : Int) ≤ 1000000 := by omega
  have hq : ((l.length : Int) == (l.length : Int)) = true := by simp
  go_enter Tryd.func7, Tryd.ntmps7
  go_wp2_with fail
  go_loopg [5, 13] l.length (fun g _ i wr => ∃ k : Nat, k ≤ l.length ∧ l.length - k ≤ g ∧ i = .int .i64 k ∧ Aside (∃ q, wr = w.drewN q))
  case atStart => exact ⟨0, Nat.zero_le _, by omega, rfl, 0, rfl⟩
  case round =>
    obtain ⟨k, hk, hg, rfl, QX⟩ := hrel
    obtain ⟨q, rfl⟩ := QX.out
    by_cases hlt : k < l.length
    · have hlti : (k : Int) < l.length := by omega
      obtain ⟨b1, o1, rfl, d1, d2, d3⟩ := H1.out k hlt
      obtain ⟨b2, o2, rfl, f1, f2, f3⟩ := H2.out k hlt
      have d1' := (cell_drewN w q _).trans d1
      have d2' := (cell_drewN w q _).trans d2
      have d3' := (cell_drewN w q _).trans d3
      have f1' := (cell_drewN w q _).trans f1
      have f2' := (cell_drewN w q _).trans f2
      have f3' := (cell_drewN w q _).trans f3
      generalize (l.getD k (0, 0, 0)).1 = x at *
      generalize (l.getD k (0, 0, 0)).2.1 = y at *
      generalize (l.getD k (0, 0, 0)).2.2 = z at *
      have hxx : (x == x) = true := by simp
      have hyy : (y == y) = true := by simp
      have hzz : (z == z) = true := by simp
      go_wp2_with fail
      go_quiet (fail)
      go_wp2_with fail
      go_roundg (l.length - (k + 1))
      · exact ⟨k + 1, by omega, by omega, by go_num, _, rfl⟩
      · omega
    · have hlti : ¬ (k : Int) < l.length := by omega
      go_wp2_with fail
      go_ret
      exact ⟨rfl, _, rfl⟩
end Go.Proofs.YtbcegdiabnapkabDoor
