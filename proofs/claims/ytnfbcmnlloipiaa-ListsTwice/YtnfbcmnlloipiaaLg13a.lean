/-
  An append of nothing; a row out of a row.
-/
import Derived.Test.YtnfbcmnlloipiaaLg12
import Derived.Lib.SlFresh
namespace Go.Proofs.Ytnfbcmnlloipiaa
set_option linter.unusedVariables false
set_option linter.unusedSimpArgs false
open Go.RowKit Go.Lib Go.Maps

theorem append_zero {P : Program} {w : World} (base base' : Nat) (t ty e : TypeId) (i : TypeInfo) (size : Nat) (ht : P.underlying t = some (.slice e)) (hi : P.info? e = some i) (v u : Value) (n : Nat) (xs ys : List Value) (hown : w.ownsRow base e size v n xs) (hu : w.ownsRow base' e size u 0 ys) : (Builtin.append_ #[t, t] ty #[v, u]).run P w = .ok v w := by
  obtain ⟨a, c, rfl⟩ := own_slice hu
  rcases hown.2 with ⟨rfl, rfl⟩ | ⟨g, cap, cur, rfl, _, _, hnc, _⟩
  · cases a <;> simp [Builtin.append_, run_underlying ht, sizeOf, typeInfo, hi, Builtin.lenOf, Builtin.firstCells, loadCells, loadCellsFrom]
  · cases a <;> simp [Builtin.append_, run_underlying ht, sizeOf, typeInfo, hi, Builtin.lenOf, Builtin.firstCells, hnc, storeCells, loadCells, loadCellsFrom]
theorem ansC_append (a b : List MAn) : ansC (a ++ b) = ansC a ++ ansC b := by simp [ansC]
theorem ansC_len (l : List MAn) : (ansC l).length = l.length * 9 := by
  induction l with
  | nil => rfl
  | cons a l ih =>
    show (anC a ++ ansC l).length = _
    rw [List.length_append, ih, List.length_cons]
    show 9 + _ = _
    omega
theorem ansC_one (l : List MAn) : ∀ u ∈ ansC l, u.oneCell' = true := by
  intro u hu
  obtain ⟨a, _, ha⟩ := List.mem_flatMap.1 hu
  simp only [anC, List.mem_cons, List.not_mem_nil, or_false] at ha
  rcases ha with rfl | rfl | rfl | rfl | rfl | rfl | rfl | rfl | rfl <;> rfl
/-- All that is wrong with a list. -/
def anoM (K : Knw) (s : ByteArray) (RX : List MRx) : List MAn := uptoA K s RX 5 0 ++ (if harmB (uptoA K s RX 5 0) = true then disK K.f s K.ts K.ts.length else [])
theorem anoM_len (K : Knw) (s : ByteArray) (RX : List MRx) : (anoM K s RX).length ≤ 5 * RX.length + K.ts.length := by
  unfold anoM
  have h1 := uptoA_len K s RX 5 0 (by omega)
  have h2 := disK_len K.f s K.ts K.ts.length
  rw [List.length_append]
  split
  · omega
  · rw [List.length_nil]
    omega
theorem own_some {B : Nat} {w : World} {e : TypeId} {z n : Nat} {v : Value} {xs : List Value} (h : w.ownsRow B e z v n xs) (hn : ¬ n = 0) : ∃ g c, v = .slice (some ⟨g, 0, none⟩) n c := by
  rcases h.2 with ⟨_, h0⟩ | ⟨g, cap, cur, hv, _⟩
  · exact absurd h0 hn
  · exact ⟨g, cap, hv⟩
theorem ans_news {B : Nat} {w : World} {g c : Nat} {D : List MAn} (h : w.ownsRow B 85 9 (.slice (some ⟨g, 0, none⟩) D.length c) D.length (ansC D)) : ∀ j u, (ansC D)[j]? = some u → w.cell? ((⟨g, 0, none⟩ : Addr).add j) = some u := fun j u hu => by
  have hj : j < D.length * 9 := by rw [← ansC_len]; exact (List.getElem?_eq_some_iff.1 hu).1
  rw [Addr.add_lit, Nat.zero_add, h.cellAt j hj]
  exact hu
end Go.Proofs.Ytnfbcmnlloipiaa
