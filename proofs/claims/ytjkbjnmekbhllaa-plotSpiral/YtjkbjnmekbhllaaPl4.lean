/-
  Whether numbers are places; PlotSpiral.
-/
import Derived.Test.YtjkbjnmekbhllaaPl3
namespace Go.Proofs.Ytjkbjnmekbhllaa
set_option linter.unusedVariables false
set_option linter.unusedSimpArgs false
open Go.RowKit

def ordAll : Bool := (List.range 41).all fun i => FloatKind.f64.format.order (fb ((i : Int) - 20)) (fb ((i : Int) - 20)) == some .eq
theorem ordAll_true : ordAll = true := by decide +kernel
theorem ord_self (x : Int) (h : -20 ≤ x ∧ x ≤ 20) : (FloatKind.f64.format.order (fb x) (fb x) == some .eq) = true := by
  have h1 := ordAll_true
  unfold ordAll at h1
  rw [List.all_eq_true] at h1
  have h2 := h1 (x + 20).toNat (List.mem_range.2 (by omega))
  have e : (((x + 20).toNat : Nat) : Int) - 20 = x := by omega
  rw [e] at h2
  exact h2

set_option maxHeartbeats 2000000 in
set_option maxRecDepth 100000 in
theorem at_is (x y : Int) (w : World) :
    Calls Try.prog 10 #[.agg #[.int .i64 x, .int .i64 y]] w fun e w' => e = .returned (.complex .f64 (fb x) (fb y)) ∧ Below w.heap.size w w' := by
  go_enter Try.func10, Try.ntmps10
  go_wp2_with fail
  go_ret
  exact ⟨rfl, below_box w _⟩
set_option maxHeartbeats 2000000 in
set_option maxRecDepth 100000 in
theorem same1_is (x y : Int) (w : World) (hx : -20 ≤ x ∧ x ≤ 20) (hy : -20 ≤ y ∧ y ≤ 20) :
    Calls Try.prog 9 #[.complex .f64 (fb x) (fb y), .agg #[.int .i64 x, .int .i64 y]] w fun e w' => e = .returned (.bool true) ∧ Below w.heap.size w w' := by
  have h1 := ord_self x hx
  have h2 := ord_self y hy
  go_enter Try.func9, Try.ntmps9
  go_wp2_with (go_at_call 10; refine (at_is _ _ _).mono ?_; rintro e w1 ⟨rfl, hb1⟩; have B1 := hid hb1; clear hb1)
  go_ret
  exact ⟨rfl, (below_box w _).trans (B1.out.mono (by rw [alloc_size]; omega))⟩
set_option maxHeartbeats 8000000 in
set_option maxRecDepth 100000 in
theorem eqF_is {B C : Nat} {v u : Value} {m : Nat} {w : World} (hm : m ≤ 100) (hv : CRow B w v m) (hu : PRow C w u m) :
    Calls Try.prog 8 #[v, u, .func (.func 9) #[] #[]] w fun e w' => e = .returned (.bool true) ∧ Below w.heap.size w w' := by
  have HV := hid hv
  have HU := hid hu
  obtain ⟨va, vc, rfl⟩ := own_slice hv
  obtain ⟨ua, uc, rfl⟩ := own_slice hu
  clear hv hu
  go_enter Try.func8, Try.ntmps8
  go_wp2_with fail
  go_loopg [17] m (fun gg i wr => ∃ k : Nat, k ≤ m ∧ m - k ≤ gg ∧ i = .int .i64 k ∧ Aside (Below w.heap.size w wr))
  case atStart => exact ⟨0, Nat.zero_le _, by omega, rfl, Below.refl _ _⟩
  case round =>
    obtain ⟨k, hk, hgk, rfl, BK⟩ := hrel
    by_cases hlt : k < m
    · have hlti : (k : Int) < m := by omega
      obtain ⟨vg, vcap, hvf, hvl⟩ := World.ownsRow.form HV.out (by omega)
      obtain ⟨ug, ucap, huf, hul⟩ := World.ownsRow.form HU.out (by omega)
      cases hvf
      cases huf
      have c0 := World.ownsRow.cellAt HV.out k (by omega)
      rw [cVs_at m k hlt] at c0
      have c1 := World.ownsRow.cellAt HU.out (k * 2) (by omega)
      have c2 := World.ownsRow.cellAt HU.out (k * 2 + 1) (by omega)
      rw [(pVs_at m k hlt).1] at c1
      rw [(pVs_at m k hlt).2] at c2
      have hcv : cV k = .complex .f64 (fb (plX k)) (fb (plY k)) := by
        obtain ⟨_, _, _, _, _, _, e1, e2⟩ := sp_facts k (by omega)
        unfold cV
        rw [e1, e2]
      rw [hcv] at c0
      clear hcv
      have hr := pl_range k (by omega)
      generalize plX k = X at *
      generalize plY k = Y at *
      have d0 := (BK.out.cell (p := ⟨vg, k, none⟩) (World.block_lt_of_cell? _ _ c0)).trans c0
      have d1 := (BK.out.cell (p := ⟨ug, k * 2, none⟩) (World.block_lt_of_cell? _ _ c1)).trans c1
      have d2 := (BK.out.cell (p := ⟨ug, k * 2 + 1, none⟩) (World.block_lt_of_cell? _ _ c2)).trans c2
      have sK := BK.out.size
      clear c0 c1 c2
      go_wp2_with (go_at_call 9; refine (same1_is _ _ _ (by omega) (by omega)).mono ?_; rintro e w1 ⟨rfl, hb1⟩; have B1 := hid hb1; clear hb1)
      go_roundg (m - (k + 1))
      case measure => omega
      case rel => exact ⟨k + 1, by omega, by omega, by go_num, BK.out.trans (((below_box wr _).trans (B1.out.mono (by rw [alloc_size]; omega))).mono sK)⟩
    · have hlti : ¬ (k : Int) < m := by omega
      go_wp2_with fail
      go_ret
      exact ⟨rfl, BK.out⟩
set_option maxHeartbeats 2000000 in
set_option maxRecDepth 100000 in
theorem same_is {B C : Nat} {v u : Value} {m : Nat} {w : World} (hm : m ≤ 100) (hv : CRow B w v m) (hu : PRow C w u m) :
    Calls Try.prog 5 #[v, u] w fun e w' => e = .returned (.bool true) ∧ Below w.heap.size w w' := by
  go_enter Try.func5, Try.ntmps5
  go_wp2_with (go_at_call 8; refine (eqF_is hm hv hu).mono ?_; rintro e w1 ⟨rfl, hb1⟩; have B1 := hid hb1; clear hb1)
  go_ret
  exact ⟨rfl, B1.out⟩
theorem spM_le (n : Int) : spM n ≤ 100 := by unfold spM; omega
set_option maxHeartbeats 2000000 in
set_option maxRecDepth 100000 in
/-- PlotSpiral. -/
theorem spiral_walk (n : Int) (w : World) :
    Calls Try.prog 3 #[.int .i64 n] w fun e w' => e = .returned (.bool true) ∧ Below w.heap.size w w' := by
  go_enter Try.func3, Try.ntmps3
  go_wp2_with first
    | (go_at_call 6; refine (pSpiral_is _ _).mono ?_; rintro e w1 ⟨v1, rfl, hr1, hb1⟩; have R1 := hid hr1; have B1 := hid hb1; have s1 := hb1.size; clear hr1 hb1)
    | (go_at_call 7; refine (rSpiral_is _ _).mono ?_; rintro e w2 ⟨v2, rfl, hr2, hb2⟩; have R2 := hid hr2; have B2 := hid hb2; have s2 := hb2.size; clear hr2 hb2)
    | (go_at_call 5; refine (same_is (spM_le n) (own_same R1.out (fun g hg => B2.out.block g (own_block R1.out hg).2.1)) R2.out).mono ?_; rintro e w3 ⟨rfl, hb3⟩; have B3 := hid hb3; clear hb3)
  go_ret
  exact ⟨rfl, (B1.out.trans (B2.out.mono s1)).trans (B3.out.mono (by omega))⟩
end Go.Proofs.Ytjkbjnmekbhllaa
