/-
  Turn: the places of a slice, each turned, in memory of their own.
-/
import Derived.Test.YtcbflglnadmmfaaDoorPl9
import Derived.Laws.MakeOwn
namespace Go.Proofs.YtcbflglnadmmfaaDoor
set_option linter.unusedVariables false
set_option linter.unusedSimpArgs false
open Go.RowKit

/-- Block g has m numbers, the first k of them the places f. -/
def OutC (w : World) (g m : Nat) (f : Nat → Int × Int) (k : Nat) : Prop := ∃ cs : Array Value, w.heap[g]? = some (.cells cs 33) ∧ cs.size = m ∧ ∀ j, j < k → cs[j]? = some (cP (f j))
theorem OutC.cf {w : World} {g m B : Nat} {f : Nat → Int × Int} (h : OutC w g m f m) (hB : B ≤ g) (hm : m ≤ 100) : CF B w (.slice (some ⟨g, 0, none⟩) m m) f m := by
  obtain ⟨cs, h1, h2, h3⟩ := h
  refine ⟨by simp [cFs], .inr ⟨g, m, cs, rfl, hB, h1, Nat.le_refl _, by unfold maxLen; omega, by omega, ?_⟩⟩
  apply List.ext_getElem?
  intro j
  by_cases hj : j < m
  · rw [cFs_at f m j hj, List.getElem?_take, if_pos (by omega), Array.getElem?_toList, h3 j hj]
  · rw [List.getElem?_eq_none (by simp; omega), List.getElem?_eq_none (by simp [cFs]; omega)]
theorem OutC.cell {w : World} {g m : Nat} {f : Nat → Int × Int} {k : Nat} (h : OutC w g m f k) (j : Nat) (hj : j < m) : (∃ v, w.cell? ⟨g, j, none⟩ = some v) ∧ w.frozen? ⟨g, j, none⟩ = false := by
  obtain ⟨cs, h1, h2, h3⟩ := h
  exact ⟨⟨cs[j]'(by omega), by rw [Lib.cell_of_heap h1, Array.getElem?_eq_getElem (by omega)]⟩, Lib.frozen_of_heap h1 _⟩
theorem OutC.put {w : World} {g m : Nat} {f : Nat → Int × Int} {k : Nat} (h : OutC w g m f k) (hk : k < m) : OutC (w.setCell ⟨g, k, none⟩ (cP (f k))) g m f (k + 1) := by
  obtain ⟨cs, h1, h2, h3⟩ := h
  refine ⟨cs.setIfInBounds k (cP (f k)), Go.Joins.block_setCell h1 _, by simpa using h2, fun j hj => ?_⟩
  by_cases e : j = k
  · subst e
    rw [Array.getElem?_setIfInBounds_self_of_lt (by omega)]
  · rw [Array.getElem?_setIfInBounds_ne (by omega)]
    exact h3 j (by omega)
theorem OutC.same {w w' : World} {g m : Nat} {f : Nat → Int × Int} {k : Nat} (h : OutC w g m f k) (e : w'.heap[g]? = w.heap[g]?) : OutC w' g m f k := by
  obtain ⟨cs, h1, h2⟩ := h
  exact ⟨cs, e.trans h1, h2⟩
set_option maxHeartbeats 4000000 in
set_option maxRecDepth 100000 in
theorem pTurn_is {B : Nat} {w : World} {v : Value} {f : Nat → Int × Int} {m : Nat} (q : Int) (h : CF B w v f m) (hn : Near f m) (ht : ∀ k, k < m → Turns (f k).1 (f k).2) (h0 : 0 < m) :
    Calls Tryd.prog 4 #[v, .int .i64 q] w fun e w' => ∃ v' r, r < 4 ∧ e = .returned v' ∧ CF w.heap.size w' v' (fun k => tuP r (f k)) m ∧ Below w.heap.size w w' := by
  obtain ⟨r, hr4, hr⟩ := quar_is q
  have HR := hid hr
  have H := hid h
  have HN := hid hn
  have HT := hid ht
  obtain ⟨va, vc, rfl⟩ := own_slice h
  have hm := hn.1
  obtain ⟨vg, vcap, hvf, hvl⟩ := World.ownsRow.form h (by omega)
  cases hvf
  obtain ⟨i0, hi0, hz0, hz1, hz2⟩ := info_parts Tryd.infoC
  have hmk : ∀ W : World, (Instr.makeSlice 23 (.int .i64 (m : Int)) (.int .i64 (m : Int))).run Tryd.prog W = .ok (.slice (some ⟨W.heap.size, 0, none⟩) m m) (W.alloc (.cells (madeCells #[.complex .f64 0 0] m) 33)) := fun W => by
    have := run_make (P := Tryd.prog) W 23 33 i0 _ Tryd.underlying23 hi0 hz0 .i64 .i64 (m : Int) (m : Int) (by omega) (Int.le_refl _) (by rw [hz2]; omega) (by omega)
    rw [this, hz1]
    simp [Value.cells]
  clear hi0 hz0 hz1 hz2 h hn ht hr
  have OC0 : Hid (OutC (w.alloc (.cells (madeCells #[.complex .f64 0 0] m) 33)) w.heap.size m (fun k => tuP r (f k)) 0) :=
    ⟨_, by rw [alloc_at, if_pos rfl], size_madeCells _ _, fun j hj => by omega⟩
  generalize madeCells #[.complex .f64 0 0] m = MC at *
  go_enter Tryd.func4, Tryd.ntmps4
  go_wp2_with fail
  go_loopg [13] m (fun gg i wr => ∃ k : Nat, k ≤ m ∧ m - k ≤ gg ∧ i = .int .i64 k ∧ Aside (OutC wr w.heap.size m (fun k => tuP r (f k)) k) ∧ Aside (Below w.heap.size w wr ∧ w.heap.size < wr.heap.size))
  case atStart => exact ⟨0, Nat.zero_le _, by omega, rfl, OC0.out, (⟨below_box _ _, by rw [alloc_size]; omega⟩ : _ ∧ _)⟩
  case round =>
    obtain ⟨k, hk, hgk, rfl, OK, BK⟩ := hrel
    by_cases hlt : k < m
    · have hlti : (k : Int) < m := by omega
      have c0 := H.out.cell k hlt
      have d0 := (BK.out.1.cell (p := ⟨vg, k, none⟩) hvl.2).trans c0
      have hrng := HN.out.2 k hlt
      have w1 := wh_at (f k).1 (by omega)
      have w2 := wh_at (f k).2 (by omega)
      have TU := HT.out k hlt
      obtain ⟨⟨ov, co⟩, fo⟩ := OK.out.cell k hlt
      have hst := store_c Tryd.prog
      have HP := hid (OK.out.put hlt)
      have HC : Hid (cP (tuP r (f k)) = .complex .f64 (fb (tuP r (f k)).1) (fb (tuP r (f k)).2)) := rfl
      go_wp2_with first
        | (go_at_call 9; refine (whole_is _ _ _ w1 w2).mono ?_; rintro e w1 ⟨rfl, rfl⟩)
        | (go_at_call 10; refine (turned_is _ _ q TU r HR.out hr4 _).mono ?_; rintro e w1 ⟨rfl, rfl⟩; rw [HC.out])
      go_roundg (m - (k + 1))
      case measure => omega
      case rel => exact ⟨k + 1, by omega, by omega, by go_num, HP.out, (⟨BK.out.1.setCell (Nat.le_refl _) _, by rw [set_size]; exact BK.out.2⟩ : _ ∧ _)⟩
    · have hlti : ¬ (k : Int) < m := by omega
      have e : k = m := by omega
      subst e
      go_wp2_with fail
      go_ret
      exact ⟨_, r, hr4, rfl, OK.out.cf (Nat.le_refl _) hm, BK.out.1⟩
end Go.Proofs.YtcbflglnadmmfaaDoor
