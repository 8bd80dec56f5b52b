/-
  Whether two reports are the same: the program's way, and the document's.
-/
import Derived.Test.YtampofijmepjjaaRs5
namespace Go.Proofs.Ytampofijmepjjaa
set_option linter.unusedVariables false
set_option linter.unusedSimpArgs false
open Go.RowKit Go.Lib
open Tx (RowsIn.cells RowCells)

set_option maxHeartbeats 8000000 in
set_option maxRecDepth 100000 in
theorem rpSame_is (v u : Value) (a b : MR) (w : World) (ha : RepIn w v a) (hb : RepIn w u b) :
    Calls Try.prog 6 #[v, u] w fun e w' => e = .returned (.bool (rEq a b)) ∧ Below w.heap.size w w' := by
  obtain ⟨av, ov, rfl, hav, hov⟩ := ha
  obtain ⟨bv, pv, rfl, hbv, hpv⟩ := hb
  obtain ⟨x1, x2, x3, x4, x5, x6⟩ := a
  obtain ⟨y1, y2, y3, y4, y5, y6⟩ := b
  simp only at hav hov hbv hpv
  have HAV := hid hav
  have HOV := hid hov
  have HBV := hid hbv
  have HPV := hid hpv
  obtain ⟨aa, ac, rfl, -⟩ := hav
  obtain ⟨oa, oc, rfl, -⟩ := hov
  obtain ⟨ba, bc, rfl, -⟩ := hbv
  obtain ⟨pa, pc, rfl, -⟩ := hpv
  simp only [encR]
  cases h0 : (x1 == y1)
  · have HF : rEq (x1, x2, x3, x4, x5, x6) (y1, y2, y3, y4, y5, y6) = false := by simp only [rEq, h0, Bool.false_and, Bool.true_and, Bool.and_false]
    rw [HF]
    clear HF
    go_enter Try.func6, Try.ntmps6
    go_wp2
    go_ret
    exact ⟨rfl, below_2 _ _ _⟩
  cases h1 : (x2 == y2)
  · have HF : rEq (x1, x2, x3, x4, x5, x6) (y1, y2, y3, y4, y5, y6) = false := by simp only [rEq, h0, h1, Bool.false_and, Bool.true_and, Bool.and_false]
    rw [HF]
    clear HF
    go_enter Try.func6, Try.ntmps6
    go_wp2
    go_ret
    exact ⟨rfl, below_2 _ _ _⟩
  cases h2 : (x4 == y4)
  · have HF : rEq (x1, x2, x3, x4, x5, x6) (y1, y2, y3, y4, y5, y6) = false := by simp only [rEq, h0, h1, h2, Bool.false_and, Bool.true_and, Bool.and_false]
    rw [HF]
    clear HF
    go_enter Try.func6, Try.ntmps6
    go_wp2
    go_ret
    exact ⟨rfl, below_2 _ _ _⟩
  cases h3 : (x5 == y5)
  · have HF : rEq (x1, x2, x3, x4, x5, x6) (y1, y2, y3, y4, y5, y6) = false := by simp only [rEq, h0, h1, h2, h3, Bool.false_and, Bool.true_and, Bool.and_false]
    rw [HF]
    clear HF
    go_enter Try.func6, Try.ntmps6
    go_wp2
    go_ret
    exact ⟨rfl, below_2 _ _ _⟩
  cases HI : intsEq x6 y6
  · have HF : Hid (rEq (x1, x2, x3, x4, x5, x6) (y1, y2, y3, y4, y5, y6) = false) := by show _ = _; simp only [rEq, h0, h1, h2, h3, HI, Bool.false_and, Bool.true_and, Bool.and_false]
    go_enter Try.func6, Try.ntmps6
    go_wp2_with (go_at_call 8; refine (eqI_any _ _ x6 y6 _ (HOV.out.laterB (below_2 _ _ _)) (HPV.out.laterB (below_2 _ _ _))).mono ?_; rintro e w1 ⟨he1, hb1⟩; rw [HI] at he1; subst he1; have B1 := hid ((below_2 w _ _).trans (hb1.mono (below_2 w _ _).size)); clear hb1)
    go_ret
    exact ⟨by rw [HF.out]; rfl, B1.out⟩
  · have HF : Hid (rEq (x1, x2, x3, x4, x5, x6) (y1, y2, y3, y4, y5, y6) = ansEq x3 y3) := by show _ = _; simp only [rEq, h0, h1, h2, h3, HI, Bool.false_and, Bool.true_and, Bool.and_false]
    go_enter Try.func6, Try.ntmps6
    go_wp2_with first
      | (go_at_call 8; refine (eqI_any _ _ x6 y6 _ (HOV.out.laterB (below_2 _ _ _)) (HPV.out.laterB (below_2 _ _ _))).mono ?_; rintro e w1 ⟨he1, hb1⟩; rw [HI] at he1; subst he1; have B1 := hid ((below_2 w _ _).trans (hb1.mono (below_2 w _ _).size)); have k1 : w1.cell? ⟨w.heap.size, 2, none⟩ = some (.slice aa x3.length ac) := below_cell hb1 (by simp); have k2 : w1.cell? ⟨w.heap.size + 1, 2, none⟩ = some (.slice ba y3.length bc) := below_cell hb1 (by simp); clear hb1)
      | (go_at_call 9; refine (eqFA_any _ _ x3 y3 _ (HAV.out.later B1.out) (HBV.out.later B1.out)).mono ?_; rintro e w2 ⟨rfl, hb2⟩; have B2 := hid (B1.out.trans (hb2.mono B1.out.size)); clear hb2)
    go_ret
    exact ⟨by rw [HF.out]; rfl, B2.out⟩

set_option maxHeartbeats 8000000 in
set_option maxRecDepth 100000 in
theorem rrSame_is (v u : Value) (a b : MR) (w : World) (ha : RepIn w v a) (hb : RepIn w u b) :
    Calls Try.prog 7 #[v, u] w fun e w' => e = .returned (.bool (rEq a b)) ∧ Below w.heap.size w w' := by
  obtain ⟨av, ov, rfl, hav, hov⟩ := ha
  obtain ⟨bv, pv, rfl, hbv, hpv⟩ := hb
  obtain ⟨x1, x2, x3, x4, x5, x6⟩ := a
  obtain ⟨y1, y2, y3, y4, y5, y6⟩ := b
  simp only at hav hov hbv hpv
  have HAV := hid hav
  have HOV := hid hov
  have HBV := hid hbv
  have HPV := hid hpv
  obtain ⟨aa, ac, rfl, -⟩ := hav
  obtain ⟨oa, oc, rfl, -⟩ := hov
  obtain ⟨ba, bc, rfl, -⟩ := hbv
  obtain ⟨pa, pc, rfl, -⟩ := hpv
  simp only [encR]
  cases h0 : (x1 == y1)
  · have HF : rEq (x1, x2, x3, x4, x5, x6) (y1, y2, y3, y4, y5, y6) = false := by simp only [rEq, h0, Bool.false_and, Bool.true_and, Bool.and_false]
    rw [HF]
    clear HF
    go_enter Try.func7, Try.ntmps7
    go_wp2
    go_ret
    exact ⟨rfl, below_2 _ _ _⟩
  cases h1 : (x2 == y2)
  · have HF : rEq (x1, x2, x3, x4, x5, x6) (y1, y2, y3, y4, y5, y6) = false := by simp only [rEq, h0, h1, Bool.false_and, Bool.true_and, Bool.and_false]
    rw [HF]
    clear HF
    go_enter Try.func7, Try.ntmps7
    go_wp2
    go_ret
    exact ⟨rfl, below_2 _ _ _⟩
  cases h2 : (x4 == y4)
  · have HF : rEq (x1, x2, x3, x4, x5, x6) (y1, y2, y3, y4, y5, y6) = false := by simp only [rEq, h0, h1, h2, Bool.false_and, Bool.true_and, Bool.and_false]
    rw [HF]
    clear HF
    go_enter Try.func7, Try.ntmps7
    go_wp2
    go_ret
    exact ⟨rfl, below_2 _ _ _⟩
  cases h3 : (x5 == y5)
  · have HF : rEq (x1, x2, x3, x4, x5, x6) (y1, y2, y3, y4, y5, y6) = false := by simp only [rEq, h0, h1, h2, h3, Bool.false_and, Bool.true_and, Bool.and_false]
    rw [HF]
    clear HF
    go_enter Try.func7, Try.ntmps7
    go_wp2
    go_ret
    exact ⟨rfl, below_2 _ _ _⟩
  cases HI : intsEq x6 y6
  · have HF : Hid (rEq (x1, x2, x3, x4, x5, x6) (y1, y2, y3, y4, y5, y6) = false) := by show _ = _; simp only [rEq, h0, h1, h2, h3, HI, Bool.false_and, Bool.true_and, Bool.and_false]
    go_enter Try.func7, Try.ntmps7
    go_wp2_with (go_at_call 11; refine (sameL_any _ _ x6 y6 _ (HOV.out.laterB (below_2 _ _ _)) (HPV.out.laterB (below_2 _ _ _))).mono ?_; rintro e w1 ⟨he1, hb1⟩; rw [HI] at he1; subst he1; have B1 := hid ((below_2 w _ _).trans (hb1.mono (below_2 w _ _).size)); clear hb1)
    go_ret
    exact ⟨by rw [HF.out]; rfl, B1.out⟩
  · have HF : Hid (rEq (x1, x2, x3, x4, x5, x6) (y1, y2, y3, y4, y5, y6) = ansEq x3 y3) := by show _ = _; simp only [rEq, h0, h1, h2, h3, HI, Bool.false_and, Bool.true_and, Bool.and_false]
    go_enter Try.func7, Try.ntmps7
    go_wp2_with first
      | (go_at_call 11; refine (sameL_any _ _ x6 y6 _ (HOV.out.laterB (below_2 _ _ _)) (HPV.out.laterB (below_2 _ _ _))).mono ?_; rintro e w1 ⟨he1, hb1⟩; rw [HI] at he1; subst he1; have B1 := hid ((below_2 w _ _).trans (hb1.mono (below_2 w _ _).size)); have k1 : w1.cell? ⟨w.heap.size, 2, none⟩ = some (.slice aa x3.length ac) := below_cell hb1 (by simp); have k2 : w1.cell? ⟨w.heap.size + 1, 2, none⟩ = some (.slice ba y3.length bc) := below_cell hb1 (by simp); clear hb1)
      | (go_at_call 12; refine (rAns_any _ _ x3 y3 _ (HAV.out.later B1.out) (HBV.out.later B1.out)).mono ?_; rintro e w2 ⟨rfl, hb2⟩; have B2 := hid (B1.out.trans (hb2.mono B1.out.size)); clear hb2)
    go_ret
    exact ⟨by rw [HF.out]; rfl, B2.out⟩
end Go.Proofs.Ytampofijmepjjaa
