/-
  Whether two anomalies are the same: the program's way, and the document's.
-/
import Derived.Test.YtampofijmepjjaaRs2
namespace Go.Proofs.Ytampofijmepjjaa
set_option linter.unusedVariables false
set_option linter.unusedSimpArgs false
open Go.RowKit Go.Lib
open Tx (RowsIn.cells RowCells)

theorem below_2 (w : World) (x y : Obj) : Below w.heap.size w ((w.alloc x).alloc y) := ((Below.refl _ _).alloc (Nat.le_refl _) _).alloc (by show _ ≤ (w.heap.push _).size; simp) _

set_option maxHeartbeats 8000000 in
set_option maxRecDepth 100000 in
theorem sameAn_is (a b : MA) (cv dv : Value) (w : World) (ha : WhysIn w cv a.cyc) (hb : WhysIn w dv b.cyc) :
    Calls Try.prog 10 #[.agg (encA a cv).toArray, .agg (encA b dv).toArray] w fun e w' => e = .returned (.bool (aEq a b)) ∧ Below w.heap.size w w' := by
  obtain ⟨a1, a2, a3, a4, a5, a6, ac, a8, a9⟩ := a
  obtain ⟨b1, b2, b3, b4, b5, b6, bc, b8, b9⟩ := b
  simp only [MA.cyc] at ha hb
  obtain ⟨pa, pc, rfl, pl, pk⟩ := RowsIn.cells ha (by omega)
  obtain ⟨qa, qc, rfl, ql, qk⟩ := RowsIn.cells hb (by omega)
  have HA := hid ha
  have HB := hid hb
  have PK := hid pk
  have QK := hid qk
  clear ha hb pk qk
  simp only [encA]
  cases h0 : (a1 == b1)
  · have HF : aEq (a1, a2, a3, a4, a5, a6, ac, a8, a9) (b1, b2, b3, b4, b5, b6, bc, b8, b9) = false := by simp only [aEq, h0, Bool.false_and, Bool.true_and, Bool.and_false]
    rw [HF]
    clear HF
    go_enter Try.func10, Try.ntmps10
    go_wp2
    go_ret
    exact ⟨rfl, below_2 _ _ _⟩
  cases h1 : (a2 == b2)
  · have HF : aEq (a1, a2, a3, a4, a5, a6, ac, a8, a9) (b1, b2, b3, b4, b5, b6, bc, b8, b9) = false := by simp only [aEq, h0, h1, Bool.false_and, Bool.true_and, Bool.and_false]
    rw [HF]
    clear HF
    go_enter Try.func10, Try.ntmps10
    go_wp2
    go_ret
    exact ⟨rfl, below_2 _ _ _⟩
  cases h2 : (a3 == b3)
  · have HF : aEq (a1, a2, a3, a4, a5, a6, ac, a8, a9) (b1, b2, b3, b4, b5, b6, bc, b8, b9) = false := by simp only [aEq, h0, h1, h2, Bool.false_and, Bool.true_and, Bool.and_false]
    rw [HF]
    clear HF
    go_enter Try.func10, Try.ntmps10
    go_wp2
    go_ret
    exact ⟨rfl, below_2 _ _ _⟩
  cases h3 : (a4 == b4)
  · have HF : aEq (a1, a2, a3, a4, a5, a6, ac, a8, a9) (b1, b2, b3, b4, b5, b6, bc, b8, b9) = false := by simp only [aEq, h0, h1, h2, h3, Bool.false_and, Bool.true_and, Bool.and_false]
    rw [HF]
    clear HF
    go_enter Try.func10, Try.ntmps10
    go_wp2
    go_ret
    exact ⟨rfl, below_2 _ _ _⟩
  cases h4 : (a5.toList == b5.toList)
  · have HF : aEq (a1, a2, a3, a4, a5, a6, ac, a8, a9) (b1, b2, b3, b4, b5, b6, bc, b8, b9) = false := by simp only [aEq, h0, h1, h2, h3, h4, Bool.false_and, Bool.true_and, Bool.and_false]
    rw [HF]
    clear HF
    go_enter Try.func10, Try.ntmps10
    go_wp2
    go_ret
    exact ⟨rfl, below_2 _ _ _⟩
  cases h5 : (a6 == b6)
  · have HF : aEq (a1, a2, a3, a4, a5, a6, ac, a8, a9) (b1, b2, b3, b4, b5, b6, bc, b8, b9) = false := by simp only [aEq, h0, h1, h2, h3, h4, h5, Bool.false_and, Bool.true_and, Bool.and_false]
    rw [HF]
    clear HF
    go_enter Try.func10, Try.ntmps10
    go_wp2
    go_ret
    exact ⟨rfl, below_2 _ _ _⟩
  cases h6 : (a8 == b8)
  · have HF : aEq (a1, a2, a3, a4, a5, a6, ac, a8, a9) (b1, b2, b3, b4, b5, b6, bc, b8, b9) = false := by simp only [aEq, h0, h1, h2, h3, h4, h5, h6, Bool.false_and, Bool.true_and, Bool.and_false]
    rw [HF]
    clear HF
    go_enter Try.func10, Try.ntmps10
    go_wp2
    go_ret
    exact ⟨rfl, below_2 _ _ _⟩
  cases h7 : (a9 == b9)
  · have HF : aEq (a1, a2, a3, a4, a5, a6, ac, a8, a9) (b1, b2, b3, b4, b5, b6, bc, b8, b9) = false := by simp only [aEq, h0, h1, h2, h3, h4, h5, h6, h7, Bool.false_and, Bool.true_and, Bool.and_false]
    rw [HF]
    clear HF
    go_enter Try.func10, Try.ntmps10
    go_wp2
    go_ret
    exact ⟨rfl, below_2 _ _ _⟩
  have HT : Hid (aEq (a1, a2, a3, a4, a5, a6, ac, a8, a9) (b1, b2, b3, b4, b5, b6, bc, b8, b9) = whysEq ac bc) := by show _ = _; simp only [aEq, h0, h1, h2, h3, h4, h5, h6, h7, Bool.true_and]
  go_enter Try.func10, Try.ntmps10
  go_wp2_with (go_at_call 13; refine (eqWhy_any _ _ ac bc _ (HA.out.later (below_2 _ _ _)) (HB.out.later (below_2 _ _ _))).mono ?_; rintro e w1 ⟨rfl, hb1⟩; have B1 := hid hb1; clear hb1)
  go_ret
  exact ⟨by rw [HT.out]; rfl, (below_2 _ _ _).trans (B1.out.mono (below_2 _ _ _).size)⟩
end Go.Proofs.Ytampofijmepjjaa
