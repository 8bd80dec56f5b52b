/-
  slices.Reverse of ints.
-/
import Derived.Test.YtjgmkigfpjmlaabDoorP5
namespace Go.Proofs.YtjgmkigfpjmlaabDoor
set_option linter.unusedVariables false
set_option linter.unusedSimpArgs false
open Go.RowKit

/-- A list with its first and its last i swapped. -/
def swp (l : List Int) (i j : Nat) : Int := if j < i ∨ l.length ≤ j + i then l.getD (l.length - 1 - j) 0 else l.getD j 0
/-- A row of numbers in block g. -/
def Lay1 (w : World) (g : Nat) (N n : Nat) (f : Nat → Int) : Prop := ∃ cur : Array Value, w.heap[g]? = some (.cells cur 3) ∧ (cur.size = N ∧ n ≤ N) ∧ ∀ j, j < n → cur[j]? = some (.int .i64 (f j))
theorem Lay1.put {w : World} {g N n : Nat} {f : Nat → Int} (h : Lay1 w g N n f) (i : Nat) (x : Int) (hi : i < n) : Lay1 (w.setCell ⟨g, i, none⟩ (.int .i64 x)) g N n (fun j => if j = i then x else f j) := by
  obtain ⟨cur, h1, h2, h3⟩ := h
  refine ⟨cur.setIfInBounds i (.int .i64 x), Go.Joins.block_setCell h1 _, by simpa using h2, fun j hj => ?_⟩
  by_cases e : j = i
  · subst e
    rw [Array.getElem?_setIfInBounds_self_of_lt (by omega)]
    simp
  · rw [Array.getElem?_setIfInBounds_ne (fun e' => e e'.symm), h3 j hj]
    simp [e]
theorem Lay1.congr {w : World} {g N n : Nat} {f f' : Nat → Int} (h : Lay1 w g N n f) (he : ∀ j, j < n → f j = f' j) : Lay1 w g N n f' := by
  obtain ⟨cur, h1, h2, h3⟩ := h
  exact ⟨cur, h1, h2, fun j hj => by rw [← he j hj]; exact h3 j hj⟩
theorem Lay1.cell {w : World} {g N n : Nat} {f : Nat → Int} (h : Lay1 w g N n f) (j : Nat) (hj : j < n) : w.cell? ⟨g, j, none⟩ = some (.int .i64 (f j)) ∧ w.frozen? ⟨g, j, none⟩ = false := by
  obtain ⟨cur, h1, h2, h3⟩ := h
  exact ⟨(Lib.cell_of_heap h1 j).trans (h3 j hj), Lib.frozen_of_heap h1 j⟩
theorem swp_step (l : List Int) (i : Nat) (h : 2 * i + 1 < l.length) (j : Nat) (hj : j < l.length) :
    (if j = l.length - 1 - i then l.getD i 0 else if j = i then l.getD (l.length - 1 - i) 0 else swp l i j) = swp l (i + 1) j := by
  unfold swp
  by_cases e1 : j = l.length - 1 - i
  · rw [if_pos e1, if_pos (by omega)]
    congr 1
    omega
  · rw [if_neg e1]
    by_cases e2 : j = i
    · rw [if_pos e2, if_pos (by omega), e2]
    · rw [if_neg e2]
      by_cases e3 : j < i ∨ l.length ≤ j + i
      · rw [if_pos e3, if_pos (by omega)]
      · rw [if_neg e3, if_neg (by omega)]
theorem swp_end (l : List Int) (i : Nat) (h : ¬ 2 * i + 1 < l.length) (j : Nat) (hj : j < l.length) (hi : 2 * i ≤ l.length) : swp l i j = l.reverse.getD j 0 := by
  have e : l.reverse.getD j 0 = l.getD (l.length - 1 - j) 0 := by
    simp [List.getD, List.getElem?_reverse hj]
  unfold swp
  rw [e]
  by_cases e3 : j < i ∨ l.length ≤ j + i
  · rw [if_pos e3]
  · rw [if_neg e3]
    congr 1
    omega

set_option maxHeartbeats 4000000 in
set_option maxRecDepth 100000 in
theorem reverse_is (g cap : Nat) (l : List Int) (w : World) (h : Lay1 w g cap l.length (fun j => l.getD j 0)) (hl : l.length < 10000) :
    Calls Tryd.prog 47 #[.slice (some ⟨g, 0, none⟩) l.length cap] w fun e w' => e = .returned (.tuple #[]) ∧ Lay1 w' g cap l.length (fun j => l.reverse.getD j 0) ∧ Beside g w w' := by
  have H := hid h
  clear h
  have hli : (l.length : Int) < 10000 := by omega
  go_enter Tryd.func47, Tryd.ntmps47
  go_wp2_with fail
  go_loopg [2, 3] l.length (fun gg x y wr => ∃ i : Nat, 2 * i ≤ l.length ∧ l.length - i ≤ gg ∧ x = .int .i64 i ∧ y = .int .i64 ((l.length : Int) - 1 - i) ∧ Aside (Lay1 wr g cap l.length (swp l i)) ∧ Aside (Beside g w wr))
  case atStart => exact ⟨0, by omega, by omega, rfl, by simp, H.out.congr (fun j hj => by unfold swp; rw [if_neg (by omega)]), Beside.refl _ _⟩
  case round =>
    obtain ⟨i, hi, hg, rfl, rfl, LX, BX⟩ := hrel
    by_cases hlt : 2 * i + 1 < l.length
    · obtain ⟨k, hk⟩ : ∃ k : Nat, k = l.length - 1 - i := ⟨_, rfl⟩
      have hki : (l.length : Int) - 1 - i = (k : Int) := by omega
      rw [hki]
      have h1 : (i : Int) < k := by omega
      have h2 : (i : Int) < l.length := by omega
      have h3 : (k : Int) < l.length := by omega
      have hne : i ≠ k := by omega
      obtain ⟨ci, fi⟩ := LX.out.cell i (by omega)
      obtain ⟨ckk, fk⟩ := LX.out.cell k (by omega)
      have e1 : swp l i i = l.getD i 0 := by unfold swp; rw [if_neg (by omega)]
      have e2 : swp l i k = l.getD k 0 := by unfold swp; rw [if_neg (by omega)]
      rw [e1] at ci
      rw [e2] at ckk
      have LN : Hid (Lay1 ((wr.setCell ⟨g, i, none⟩ (.int .i64 (l.getD k 0))).setCell ⟨g, k, none⟩ (.int .i64 (l.getD i 0))) g cap l.length (swp l (i + 1))) :=
        ((LX.out.put i (l.getD k 0) (by omega)).put k (l.getD i 0) (by omega)).congr (fun j hj => by rw [hk]; exact swp_step l i hlt j hj)
      have BN : Hid (Beside g w ((wr.setCell ⟨g, i, none⟩ (.int .i64 (l.getD k 0))).setCell ⟨g, k, none⟩ (.int .i64 (l.getD i 0)))) := (BX.out.setCell rfl _).setCell rfl _
      have HK := hid hk
      have hkl : k < l.length := by omega
      have hil : i < l.length := by omega
      clear e1 e2 LX BX hk hki
      generalize l.getD i 0 = xi at *
      generalize l.getD k 0 = xk at *
      go_wp2_with fail
      go_region
      all_goals (try go_wp2_with fail)
      go_roundg (l.length - (i + 1))
      · exact ⟨i + 1, by omega, by omega, by go_num, by have := HK.out; congr 1; omega, LN.out, BN.out.drewN 1⟩
      · omega
    · have hlti : ¬ ((i : Int) < (l.length : Int) - 1 - i) := by omega
      go_wp2_with fail
      refine bodyPost_end (results_none rfl _ _ _) rfl ⟨rfl, LX.out.congr (fun j hj => swp_end l i hlt j hj hi), BX.out⟩
end Go.Proofs.YtjgmkigfpjmlaabDoor
