/-
  Equal lists of pairs; added with a number that is none.
-/
import Derived.Test.YtmnfmilgpglfcaaDoorK9
namespace Go.Proofs.YtmnfmilgpglfcaaDoor
set_option linter.unusedVariables false
set_option linter.unusedSimpArgs false
open Go.RowKit

/-- A slice of two numbers each that can be read. -/
def ArgN (w : World) (ao : Option Addr) (es : List (Nat × Nat)) : Prop :=
  ∀ j, j < es.length → ∃ b off, ao = some ⟨b, off, none⟩ ∧ w.cell? ⟨b, off + j * 2, none⟩ = some (.int .i64 ((es.getD j (0, 0)).1 : Nat)) ∧ w.cell? ⟨b, off + j * 2 + 1, none⟩ = some (.int .i64 ((es.getD j (0, 0)).2 : Nat))
theorem ArgN.later {w w' : World} {ao : Option Addr} {es : List (Nat × Nat)} (h : ArgN w ao es) (hb : Below w.heap.size w w') : ArgN w' ao es := fun j hj => by
  obtain ⟨b, off, e, h0, h1⟩ := h j hj
  exact ⟨b, off, e, (hb.cell (p := ⟨b, off + j * 2, none⟩) (World.block_lt_of_cell? _ _ h0)).trans h0, (hb.cell (p := ⟨b, off + j * 2 + 1, none⟩) (World.block_lt_of_cell? _ _ h1)).trans h1⟩
theorem prsV_at (l : List (Nat × Nat)) (j : Nat) (hj : j < l.length) : (prsV l)[2 * j]? = some (.int .i64 ((l.getD j (0, 0)).1 : Nat)) ∧ (prsV l)[2 * j + 1]? = some (.int .i64 ((l.getD j (0, 0)).2 : Nat)) := by
  induction l generalizing j with
  | nil => simp at hj
  | cons e l ih =>
    have e0 : prsV (e :: l) = prV e ++ prsV l := by unfold prsV; simp
    rw [e0]
    cases j with
    | zero => simp [prV]
    | succ j =>
      have hl : (prV e).length = 2 := rfl
      obtain ⟨h0, h1⟩ := ih j (by simp at hj; omega)
      have a0 : 2 * (j + 1) = (prV e).length + 2 * j := by omega
      have a1 : 2 * (j + 1) + 1 = (prV e).length + (2 * j + 1) := by omega
      rw [a0]
      rw [a0] at a1
      rw [a1]
      simp only [List.getElem?_append_right (Nat.le_add_right _ _), Nat.add_sub_cancel_left]
      simpa using ⟨h0, h1⟩
theorem PrsIn.arg {B : Nat} {w : World} {v : Value} {l : List (Nat × Nat)} (h : PrsIn B w v l) : ∃ ao c, v = .slice ao l.length c ∧ ArgN w ao l := by
  rcases h.2 with ⟨hv, hn⟩ | ⟨g, cap, cur, hv, hB, hg, hnc, hm, hs, ht⟩
  · refine ⟨none, 0, by rw [hv, hn], fun j hj => ?_⟩
    omega
  · refine ⟨_, _, hv, fun j hj => ⟨g, 0, rfl, ?_⟩⟩
    obtain ⟨h0, h1⟩ := prsV_at l j hj
    rw [← ht, List.getElem?_take] at h0 h1
    rw [if_pos (by omega)] at h0 h1
    refine ⟨?_, ?_⟩
    · rw [Nat.zero_add, Lib.cell_of_heap hg]
      simpa [Nat.mul_comm] using h0
    · rw [Nat.zero_add, Lib.cell_of_heap hg]
      simpa [Nat.mul_comm] using h1
theorem eq32 (a b : Int) (w : World) : (Op.equalIn 10000 32 (.agg #[.int .i64 a, .int .i64 b]) (.agg #[.int .i64 a, .int .i64 b])).run Tryd.prog w = .ok true w := by
  have u3 := Tryd.underlying3
  have a3 := Tryd.isAgg3
  have z3 := Tryd.sizeOf3
  rw [show (10000 : Nat) = 9999 + 1 from rfl, Op.equalIn]
  simp only [Sem.run_bind, run_underlying Tryd.underlying32, Result.andThen_ok]
  simp only [Std.Legacy.Range.forIn_eq_forIn_range', Std.Legacy.Range.size, Nat.sub_zero, Nat.add_sub_cancel, Nat.div_one, List.range'_succ, List.range'_zero, List.forIn_cons, List.forIn_nil]
  go_simp
set_option maxHeartbeats 4000000 in
theorem equal_prs (a1 a2 : Option Addr) (c1 c2 : Nat) (l : List (Nat × Nat)) (w : World) (h1 : ArgN w a1 l) (h2 : ArgN w a2 l) (hl : l.length ≤ 1000000) :
    Calls Tryd.prog 12 #[.slice a1 l.length c1, .slice a2 l.length c2] w fun e w' => e = .returned (.bool true) ∧ ∃ q, w' = w.drewN q := by
  have H1 := hid h1
  have H2 := hid h2
  clear h1 h2
  have hlen : (l.length : Int) ≤ 1000000 := by omega
  have hq : ((l.length : Int) == (l.length : Int)) = true := by simp
  go_enter Tryd.func12, Tryd.ntmps12
  go_wp2_with fail
  go_loopg [5, 13] l.length (fun g _ i wr => ∃ k : Nat, k ≤ l.length ∧ l.length - k ≤ g ∧ i = .int .i64 k ∧ Aside (∃ q, wr = w.drewN q))
  case atStart => exact ⟨0, Nat.zero_le _, by omega, rfl, 0, rfl⟩
  case round =>
    obtain ⟨k, hk, hg, rfl, QX⟩ := hrel
    obtain ⟨q, rfl⟩ := QX.out
    by_cases hlt : k < l.length
    · have hlti : (k : Int) < l.length := by omega
      obtain ⟨b1, o1, rfl, d1, d2⟩ := H1.out k hlt
      obtain ⟨b2, o2, rfl, f1, f2⟩ := H2.out k hlt
      have d1' := (cell_drewN w q _).trans d1
      have d2' := (cell_drewN w q _).trans d2
      have f1' := (cell_drewN w q _).trans f1
      have f2' := (cell_drewN w q _).trans f2
      generalize (l.getD k (0, 0)).1 = x at *
      generalize (l.getD k (0, 0)).2 = y at *
      have hee := eq32 x y
      go_wp2_with fail
      go_quiet (fail)
      go_wp2_with fail
      go_roundg (l.length - (k + 1))
      · exact ⟨k + 1, by omega, by omega, by go_num, _, rfl⟩
      · omega
    · have hlti : ¬ (k : Int) < l.length := by omega
      go_wp2_with fail
      go_ret
      exact ⟨rfl, _, rfl⟩
set_option maxHeartbeats 4000000 in
theorem added_no (n : Int) (hn : n < 0 ∨ 300 < n) (ao : Option Addr) (cp : Nat) (zs : List (Int × Int × Bool)) (w : World) (hz : ArgP w ao zs) (hl : zs.length ≤ maxLen) :
    Calls Tryd.prog 7 #[.int .i64 n, .slice ao zs.length cp] w fun e w' => e = .returned (.tuple #[.pointer none, .pointer none, .bool true]) ∧ Below w.heap.size w w' := by
  unfold maxLen at hl
  have HZ := hid hz
  have N1 := hid (cnew_no n hn)
  have N2 := hid (rnew_no n hn)
  clear hz hn
  have hlen : (zs.length : Int) ≤ 9223372036854775807 := by omega
  go_enter Tryd.func7, Tryd.ntmps7
  go_wp2_with (first | (go_at_call 20; refine (N1.out _).mono ?_; rintro e w' ⟨rfl, rfl⟩) | (go_at_call 21; refine (N2.out _).mono ?_; rintro e w' ⟨rfl, rfl⟩))
  go_loopg [11, 12, 35] zs.length (fun g _ _ i wr => ∃ j : Nat, j ≤ zs.length ∧ zs.length - j ≤ g ∧ i = .int .i64 j ∧ Aside (Below w.heap.size w wr))
  case atStart => exact ⟨0, Nat.zero_le _, by omega, rfl, Below.refl _ _⟩
  case round =>
    obtain ⟨j, hj, hg, rfl, BX⟩ := hrel
    by_cases hjl : j < zs.length
    · have hjli : (j : Int) < zs.length := by omega
      obtain ⟨bz, oz, rfl, k1, k2, k3⟩ := HZ.out.later BX.out j hjl
      generalize (zs.getD j (0, 0, false)).1 = x at *
      generalize (zs.getD j (0, 0, false)).2.1 = y at *
      generalize (zs.getD j (0, 0, false)).2.2 = z at *
      go_wp2_with fail
      have B2 : Hid (Below w.heap.size w (wr.alloc (.cells #[.int .i64 x, .int .i64 y, .bool z] 28))) := BX.out.trans ((below_box wr _).mono BX.out.size)
      clear BX k1 k2 k3
      generalize wr.alloc (.cells #[.int .i64 x, .int .i64 y, .bool z] 28) = W at *
      go_quiet (fail)
      go_wp2_with fail
      go_roundg (zs.length - (j + 1))
      · exact ⟨j + 1, by omega, by omega, by go_num, below_drewN B2.out _⟩
      · omega
    · have hjli : ¬ (j : Int) < zs.length := by omega
      go_wp2_with fail
      refine bodyPost_ret (v := .tuple #[.pointer none, .pointer none, .bool true]) (by simp [results, Tryd.results7, go_sem]) rfl ⟨rfl, BX.out⟩
end Go.Proofs.YtmnfmilgpglfcaaDoor
