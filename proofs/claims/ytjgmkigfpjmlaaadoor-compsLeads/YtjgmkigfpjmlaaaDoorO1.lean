/-
  slices.Index of ints; the counts of edges that lead to a node.
-/
import Derived.Test.YtjgmkigfpjmlaaaDoorQ5
import Derived.Test.YtjgmkigfpjmlaaaDoorOrder
namespace Go.Proofs.YtjgmkigfpjmlaaaDoor
set_option linter.unusedVariables false
set_option linter.unusedSimpArgs false
open Go.RowKit

/-- The first place of a number. -/
def IsIndex (n : Nat) (f : Nat → Int) (x r : Int) : Prop := (∃ k : Nat, r = k ∧ k < n ∧ f k = x ∧ ∀ j, j < k → f j ≠ x) ∨ (r = -1 ∧ ∀ j, j < n → f j ≠ x)
set_option maxHeartbeats 4000000 in
set_option maxRecDepth 100000 in
theorem index_is (g N n cap : Nat) (f : Nat → Int) (x : Int) (w : World) (h : Lay1 w g N n f) (hn : n < 10000) :
    Calls Tryd.prog 34 #[.slice (some ⟨g, 0, none⟩) n cap, .int .i64 x] w fun e w' => (∃ r, e = .returned (.int .i64 r) ∧ IsIndex n f x r) ∧ w = w' := by
  have H := hid h
  clear h
  have hni : (n : Int) < 10000 := by omega
  go_enter Tryd.func34, Tryd.ntmps34
  go_wp2_with fail
  go_loopg [8] n (fun gg i wr => ∃ k : Nat, k ≤ n ∧ n - k ≤ gg ∧ i = .int .i64 k ∧ Aside (∀ j, j < k → f j ≠ x) ∧ w = wr)
  case atStart => exact ⟨0, Nat.zero_le _, by omega, rfl, fun j hj => by omega, rfl⟩
  case round =>
    obtain ⟨k, hk, hg, rfl, NX, rfl⟩ := hrel
    by_cases hlt : k < n
    · have hlti : (k : Int) < n := by omega
      obtain ⟨ck, -⟩ := H.out.cell k hlt
      by_cases e : f k = x
      · rw [e] at ck
        have hxx : (x == x) = true := by simp
        have IS : Hid (IsIndex n f x (k : Int)) := .inl ⟨k, rfl, hlt, e, NX.out⟩
        clear e
        go_wp2_with fail
        go_ret
        exact ⟨⟨_, rfl, IS.out⟩, rfl⟩
      · have NN : Hid (∀ j, j < k + 1 → f j ≠ x) := fun j hj => by
          by_cases e2 : j = k
          · rw [e2]; exact e
          · exact NX.out j (by omega)
        have hxf : (x == f k) = false := by simp; exact fun c => e c.symm
        have hxf2 : ¬ (x = f k) := fun c => e c.symm
        generalize f k = y at *
        go_wp2_with fail
        go_roundg (n - (k + 1))
        · exact ⟨k + 1, by omega, by omega, by go_num, NN.out, rfl⟩
        · omega
    · have hlti : ¬ (k : Int) < n := by omega
      have IS : Hid (IsIndex n f x (-1)) := .inr ⟨rfl, fun j hj => NX.out j (by omega)⟩
      go_wp2_with fail
      go_ret
      exact ⟨⟨_, rfl, IS.out⟩, rfl⟩
end Go.Proofs.YtjgmkigfpjmlaaaDoor
