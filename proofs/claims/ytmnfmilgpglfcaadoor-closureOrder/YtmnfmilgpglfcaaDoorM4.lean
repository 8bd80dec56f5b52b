/-
  slices.Reverse of edges.
-/
import Derived.Test.YtmnfmilgpglfcaaDoorM3
import Derived.Lib.SmallJoins
import Derived.Laws.AppendOwnNone
import Derived.Deep.AppendLies
namespace Go.Proofs.YtmnfmilgpglfcaaDoor
set_option linter.unusedVariables false
set_option linter.unusedSimpArgs false
open Go.RowKit Go.Lib

/-- A list with its first and its last i swapped. -/
def swpE (l : List (Int × Int × Bool)) (i j : Nat) : Int × Int × Bool := if j < i ∨ l.length ≤ j + i then l.getD (l.length - 1 - j) (0, 0, false) else l.getD j (0, 0, false)
/-- A row of edges in block g. -/
def LayE (w : World) (g : Nat) (N n : Nat) (f : Nat → Int × Int × Bool) : Prop := ∃ cur : Array Value, w.heap[g]? = some (.cells cur 28) ∧ (cur.size = N ∧ n * 3 ≤ N) ∧ ∀ j, j < n → cur[j * 3]? = some (.int .i64 (f j).1) ∧ cur[j * 3 + 1]? = some (.int .i64 (f j).2.1) ∧ cur[j * 3 + 2]? = some (.bool (f j).2.2)
theorem LayE.put {w : World} {g N n : Nat} {f : Nat → Int × Int × Bool} (h : LayE w g N n f) (i : Nat) (x : Int × Int × Bool) (hi : i < n) :
    LayE (((w.setCell ⟨g, i * 3, none⟩ (.int .i64 x.1)).setCell ⟨g, i * 3 + 1, none⟩ (.int .i64 x.2.1)).setCell ⟨g, i * 3 + 2, none⟩ (.bool x.2.2)) g N n (fun j => if j = i then x else f j) := by
  obtain ⟨cur, h1, h2, h3⟩ := h
  refine ⟨((cur.setIfInBounds (i * 3) (.int .i64 x.1)).setIfInBounds (i * 3 + 1) (.int .i64 x.2.1)).setIfInBounds (i * 3 + 2) (.bool x.2.2), Go.Joins.block_setCell (Go.Joins.block_setCell (Go.Joins.block_setCell h1 _) _) _, by simpa using h2, fun j hj => ?_⟩
  by_cases e : j = i
  · subst e
    simp only [if_true]
    refine ⟨?_, ?_, ?_⟩
    · rw [Array.getElem?_setIfInBounds_ne (by omega), Array.getElem?_setIfInBounds_ne (by omega), Array.getElem?_setIfInBounds_self_of_lt (by omega)]
    · rw [Array.getElem?_setIfInBounds_ne (by omega), Array.getElem?_setIfInBounds_self_of_lt (by simp; omega)]
    · rw [Array.getElem?_setIfInBounds_self_of_lt (by simp; omega)]
  · simp only [e, if_false]
    obtain ⟨k0, k1, k2⟩ := h3 j hj
    refine ⟨?_, ?_, ?_⟩
    · rw [Array.getElem?_setIfInBounds_ne (by omega), Array.getElem?_setIfInBounds_ne (by omega), Array.getElem?_setIfInBounds_ne (by omega)]; exact k0
    · rw [Array.getElem?_setIfInBounds_ne (by omega), Array.getElem?_setIfInBounds_ne (by omega), Array.getElem?_setIfInBounds_ne (by omega)]; exact k1
    · rw [Array.getElem?_setIfInBounds_ne (by omega), Array.getElem?_setIfInBounds_ne (by omega), Array.getElem?_setIfInBounds_ne (by omega)]; exact k2
theorem LayE.congr {w : World} {g N n : Nat} {f f' : Nat → Int × Int × Bool} (h : LayE w g N n f) (he : ∀ j, j < n → f j = f' j) : LayE w g N n f' := by
  obtain ⟨cur, h1, h2, h3⟩ := h
  exact ⟨cur, h1, h2, fun j hj => by rw [← he j hj]; exact h3 j hj⟩
theorem LayE.cell {w : World} {g N n : Nat} {f : Nat → Int × Int × Bool} (h : LayE w g N n f) (j : Nat) (hj : j < n) :
    (w.cell? ⟨g, j * 3, none⟩ = some (.int .i64 (f j).1) ∧ w.cell? ⟨g, j * 3 + 1, none⟩ = some (.int .i64 (f j).2.1) ∧ w.cell? ⟨g, j * 3 + 2, none⟩ = some (.bool (f j).2.2)) ∧ w.frozen? ⟨g, j * 3, none⟩ = false ∧ w.frozen? ⟨g, j * 3 + 1, none⟩ = false ∧ w.frozen? ⟨g, j * 3 + 2, none⟩ = false := by
  obtain ⟨cur, h1, h2, h3⟩ := h
  obtain ⟨k0, k1, k2⟩ := h3 j hj
  exact ⟨⟨(Lib.cell_of_heap h1 _).trans k0, (Lib.cell_of_heap h1 _).trans k1, (Lib.cell_of_heap h1 _).trans k2⟩, Lib.frozen_of_heap h1 _, Lib.frozen_of_heap h1 _, Lib.frozen_of_heap h1 _⟩
theorem swpE_step (l : List (Int × Int × Bool)) (i : Nat) (h : 2 * i + 1 < l.length) (j : Nat) (hj : j < l.length) :
    (if j = l.length - 1 - i then l.getD i (0, 0, false) else if j = i then l.getD (l.length - 1 - i) (0, 0, false) else swpE l i j) = swpE l (i + 1) j := by
  unfold swpE
  by_cases e1 : j = l.length - 1 - i
  · rw [if_pos e1, if_pos (by omega)]
    congr 1
    omega
  · rw [if_neg e1]
    by_cases e2 : j = i
    · rw [if_pos e2, if_pos (by omega), e2]
    · rw [if_neg e2]
      by_cases e3 : j < i ∨ l.length ≤ j + i
      · rw [if_pos e3, if_pos (by omega)]
      · rw [if_neg e3, if_neg (by omega)]
theorem swpE_end (l : List (Int × Int × Bool)) (i : Nat) (h : ¬ 2 * i + 1 < l.length) (j : Nat) (hj : j < l.length) (hi : 2 * i ≤ l.length) : swpE l i j = l.reverse.getD j (0, 0, false) := by
  have e : l.reverse.getD j (0, 0, false) = l.getD (l.length - 1 - j) (0, 0, false) := by
    simp [List.getD, List.getElem?_reverse hj]
  unfold swpE
  rw [e]
  by_cases e3 : j < i ∨ l.length ≤ j + i
  · rw [if_pos e3]
  · rw [if_neg e3]
    congr 1
    omega

set_option maxHeartbeats 80000000 in
set_option maxRecDepth 100000 in
theorem reverseE_is (g cap N : Nat) (l : List (Int × Int × Bool)) (w : World) (h : LayE w g N l.length (fun j => l.getD j (0, 0, false))) (hl : l.length ≤ 1048576) :
    Calls Tryd.prog 18 #[.slice (some ⟨g, 0, none⟩) l.length cap] w fun e w' => e = .returned (.tuple #[]) ∧ LayE w' g N l.length (fun j => l.reverse.getD j (0, 0, false)) ∧ Beside g w w' := by
  have H := hid h
  clear h
  have hli : (l.length : Int) ≤ 1048576 := by omega
  go_enter Tryd.func18, Tryd.ntmps18
  go_wp2_with fail
  go_loopg [2, 3] l.length (fun gg x y wr => ∃ i : Nat, 2 * i ≤ l.length ∧ l.length - i ≤ gg ∧ x = .int .i64 i ∧ y = .int .i64 ((l.length : Int) - 1 - i) ∧ Aside (LayE wr g N l.length (swpE l i)) ∧ Aside (Beside g w wr))
  case atStart => exact ⟨0, by omega, by omega, rfl, by simp, H.out.congr (fun j hj => by unfold swpE; rw [if_neg (by omega)]), Beside.refl _ _⟩
  case round =>
    obtain ⟨i, hi, hg, rfl, rfl, LX, BX⟩ := hrel
    by_cases hlt : 2 * i + 1 < l.length
    · obtain ⟨k, hk⟩ : ∃ k : Nat, k = l.length - 1 - i := ⟨_, rfl⟩
      have hki : (l.length : Int) - 1 - i = (k : Int) := by omega
      rw [hki]
      have h1 : (i : Int) < k := by omega
      have h2 : (i : Int) < l.length := by omega
      have h3 : (k : Int) < l.length := by omega
      have hne : i ≠ k := by omega
      obtain ⟨⟨ci0, ci1, ci2⟩, fi0, fi1, fi2⟩ := LX.out.cell i (by omega)
      obtain ⟨⟨ck0, ck1, ck2⟩, fk0, fk1, fk2⟩ := LX.out.cell k (by omega)
      have e1 : swpE l i i = l.getD i (0, 0, false) := by unfold swpE; rw [if_neg (by omega)]
      have e2 : swpE l i k = l.getD k (0, 0, false) := by unfold swpE; rw [if_neg (by omega)]
      rw [e1] at ci0 ci1 ci2
      rw [e2] at ck0 ck1 ck2
      have LN := hid (((LX.out.put i (l.getD k (0, 0, false)) (by omega)).put k (l.getD i (0, 0, false)) (by omega)).congr (f' := swpE l (i + 1)) (fun j hj => by rw [hk]; exact swpE_step l i hlt j hj))
      have BN : Hid (∀ (a b c d e f : Value), Beside g w ((((((wr.setCell ⟨g, i * 3, none⟩ a).setCell ⟨g, i * 3 + 1, none⟩ b).setCell ⟨g, i * 3 + 2, none⟩ c).setCell ⟨g, k * 3, none⟩ d).setCell ⟨g, k * 3 + 1, none⟩ e).setCell ⟨g, k * 3 + 2, none⟩ f)) := fun a b c d e f => (((((BX.out.setCell rfl _).setCell rfl _).setCell rfl _).setCell rfl _).setCell rfl _).setCell rfl _
      have HK := hid hk
      have hkl : k < l.length := by omega
      have hil : i < l.length := by omega
      have n0 : ¬ i * 3 = k * 3 := by omega
      have n1 : ¬ i * 3 = k * 3 + 1 := by omega
      have n2 : ¬ i * 3 = k * 3 + 2 := by omega
      have n3 : ¬ k * 3 = i * 3 + 1 := by omega
      have n4 : ¬ k * 3 = i * 3 + 2 := by omega
      have n5 : ¬ i * 3 + 1 = k * 3 := by omega
      have n6 : ¬ i * 3 + 2 = k * 3 := by omega
      have n7 : ¬ k * 3 + 1 = i * 3 := by omega
      have n8 : ¬ k * 3 + 2 = i * 3 := by omega
      have n9 : ¬ k = i := by omega
      have ni : ¬ i = k := by omega
      clear e1 e2 LX BX hk hki
      generalize l.getD i (0, 0, false) = xi at *
      generalize l.getD k (0, 0, false) = xk at *
      obtain ⟨xi0, xi1, xi2⟩ := xi
      obtain ⟨xk0, xk1, xk2⟩ := xk
      simp only at ci0 ci1 ci2 ck0 ck1 ck2 LN
      go_wp2_with fail
      go_region
      all_goals (try go_wp2_with fail)
      go_roundg (l.length - (i + 1))
      · exact ⟨i + 1, by omega, by omega, by go_num, by have := HK.out; congr 1; omega, LN.out, (BN.out _ _ _ _ _ _).drewN 1⟩
      · omega
    · have hlti : ¬ ((i : Int) < (l.length : Int) - 1 - i) := by omega
      go_wp2_with fail
      refine bodyPost_end (results_none rfl _ _ _) rfl ⟨rfl, LX.out.congr (fun j hj => swpE_end l i hlt j hj hi), BX.out⟩
theorem reverseE_nil (w : World) : Calls Tryd.prog 18 #[.slice none 0 0] w fun e w' => e = .returned (.tuple #[]) ∧ w = w' := by
  go_enter Tryd.func18, Tryd.ntmps18
  go_wp2_with fail
  go_loopg [2, 3] 0 (fun gg x y wr => x = .int .i64 0 ∧ y = .int .i64 (-1) ∧ w = wr)
  case atStart => exact ⟨rfl, rfl, rfl⟩
  case round =>
    obtain ⟨rfl, rfl, rfl⟩ := hrel
    go_wp2_with fail
    refine bodyPost_end (results_none rfl _ _ _) rfl ⟨rfl, rfl⟩
/-- Reversed, whatever slice of one's own. -/
theorem reverseE_own (B : Nat) (v : Value) (l : List (Int × Int × Bool)) (w : World) (h : w.ownsRow B 28 3 v l.length (esV l)) (hl : l.length ≤ 1048576) (hB : B ≤ w.heap.size) :
    Calls Tryd.prog 18 #[v] w fun e w' => e = .returned (.tuple #[]) ∧ w'.ownsRow B 28 3 v l.reverse.length (esV l.reverse) ∧ Below B w w' := by
  have hb0 := h.2
  rcases hb0 with ⟨hv, hn⟩ | ⟨g, cap, cur, hv, hg, hh, hcap, hm, hsz, ht⟩
  · have h0 : l = [] := List.length_eq_zero_iff.1 hn
    subst h0 hv
    refine (reverseE_nil w).mono ?_
    rintro e w' ⟨rfl, rfl⟩
    exact ⟨rfl, h, Below.refl _ _⟩
  · subst hv
    have hL : LayE w g (cap * 3) l.length (fun j => l.getD j (0, 0, false)) := by
      refine ⟨cur, hh, ⟨hsz, Nat.mul_le_mul_right _ hcap⟩, fun j hj => ?_⟩
      obtain ⟨k0, k1, k2⟩ := esV_at l j hj
      rw [← ht, List.getElem?_take, if_pos (by omega)] at k0 k1 k2
      exact ⟨by simpa using k0, by simpa using k1, by simpa using k2⟩
    refine (reverseE_is g cap (cap * 3) l w hL hl).mono ?_
    rintro e w' ⟨rfl, ⟨cur', h1, h2, h3⟩, bs⟩
    refine ⟨rfl, ⟨esV_len _, .inr ⟨g, cap, cur', by rw [List.length_reverse], hg, h1, by rw [List.length_reverse]; exact hcap, hm, h2.1, ?_⟩⟩, bs.below hg hB⟩
    apply List.ext_getElem?
    intro j
    rw [List.length_reverse]
    by_cases hj : j < l.length * 3
    · rw [List.getElem?_take, if_pos hj]
      obtain ⟨a0, a1, a2⟩ := h3 (j / 3) (by omega)
      obtain ⟨k0, k1, k2⟩ := esV_at l.reverse (j / 3) (by rw [List.length_reverse]; omega)
      have hr : j % 3 = 0 ∨ j % 3 = 1 ∨ j % 3 = 2 := by omega
      rcases hr with r | r | r
      · have e : j = j / 3 * 3 := by omega
        rw [← e] at a0 k0
        rw [k0]
        simpa using a0
      · have e : j = j / 3 * 3 + 1 := by omega
        rw [← e] at a1 k1
        rw [k1]
        simpa using a1
      · have e : j = j / 3 * 3 + 2 := by omega
        rw [← e] at a2 k2
        rw [k2]
        simpa using a2
    · rw [List.getElem?_take, if_neg hj, List.getElem?_eq_none (by rw [esV_len, List.length_reverse]; omega)]
end Go.Proofs.YtmnfmilgpglfcaaDoor
