/-
  The document's graphs: what they look like in memory; There, Labels, Add.
-/
import Derived.Test.YtbcegdiabnapkabDoorG7
import Derived.BigRegion
namespace Go.Proofs.YtbcegdiabnapkabDoor
set_option linter.unusedVariables false
set_option linter.unusedSimpArgs false
open Go.RowKit

/-- The document's graph of n nodes in block b, its rows' places in the slice v, the row i in block rw i; L tells an edge's labels. -/
structure RefG (w : World) (b n : Nat) (v : Value) (rw' : Nat → Nat) (L : Nat → Nat → Nat) : Prop where
  box : w.heap[b]? = some (.cells #[v] 50)
  rows : w.ownsRow 0 51 1 v n ((List.range n).map fun i => Value.slice (some ⟨rw' i, 0, none⟩) n n)
  each : ∀ i, i < n → ∃ cur : Array Value, w.heap[rw' i]? = some (.cells cur 3) ∧ cur.size = n ∧ ∀ j, j < n → cur[j]? = some (.int .i64 (L i j))
  apart : ∀ i j, i < n → j < n → i ≠ j → rw' i ≠ rw' j
  small : ∀ f t, L f t < 16
  bound : n ≤ 300
theorem RefG.later {w w' : World} {b n : Nat} {v : Value} {rw' : Nat → Nat} {L : Nat → Nat → Nat} (h : RefG w b n v rw' L) (hb : Below w.heap.size w w') : RefG w' b n v rw' L := by
  refine ⟨(hb.block b (blt h.box)).trans h.box, ?_, fun i hi => ?_, h.apart, h.small, h.bound⟩
  · exact World.ownsRow.kept (row := none) h.rows ⟨hb.os, hb.tape, hb.output, hb.size, fun k hk _ => hb.block k hk⟩ (by cases hq : v.ownBlock with | none => exact .inl rfl | some g => exact .inr (by simp))
  · obtain ⟨cur, h1, h2⟩ := h.each i hi
    exact ⟨cur, (hb.block _ (blt h1)).trans h1, h2⟩
/-- What a walk reads of it: the slice of rows, a row's place, a cell. -/
theorem RefG.form {w : World} {b n : Nat} {v : Value} {rw' : Nat → Nat} {L : Nat → Nat → Nat} (h : RefG w b n v rw' L) : ∃ ao cap, v = .slice ao n cap ∧ ∀ i, i < n → ∃ R, ao = some ⟨R, 0, none⟩ ∧ w.cell? ⟨R, i, none⟩ = some (.slice (some ⟨rw' i, 0, none⟩) n n) := by
  rcases h.rows.2 with ⟨hv, hn⟩ | ⟨g, cap, cur, hv, _, h2, h3, h4, h5, h6⟩
  · exact ⟨none, 0, by rw [hv, hn], fun i hi => by omega⟩
  · refine ⟨_, _, hv, fun i hi => ⟨g, rfl, ?_⟩⟩
    rw [Lib.cell_of_heap h2]
    have e : ((List.range n).map fun i => Value.slice (some ⟨rw' i, 0, none⟩) n n)[i]? = some (.slice (some ⟨rw' i, 0, none⟩) n n) := by simp [hi]
    rw [← h6, List.getElem?_take, if_pos (by omega)] at e
    simpa using e
theorem RefG.cell {w : World} {b n : Nat} {v : Value} {rw' : Nat → Nat} {L : Nat → Nat → Nat} (h : RefG w b n v rw' L) (i j : Nat) (hi : i < n) (hj : j < n) : w.cell? ⟨rw' i, j, none⟩ = some (.int .i64 (L i j)) ∧ w.frozen? ⟨rw' i, j, none⟩ = false := by
  obtain ⟨cur, h1, h2, h3⟩ := h.each i hi
  exact ⟨(Lib.cell_of_heap h1 j).trans (h3 j hj), Lib.frozen_of_heap h1 j⟩
theorem RefG.c0 {w : World} {b n : Nat} {v : Value} {rw' : Nat → Nat} {L : Nat → Nat → Nat} (h : RefG w b n v rw' L) : w.cell? ⟨b, 0, none⟩ = some v := Lib.cell_of_heap h.box 0

theorem rthere_ok (b n cap : Nat) (ao : Option Addr) (i : Nat) (w : World) (c0 : w.cell? ⟨b, 0, none⟩ = some (.slice ao n cap)) (hi : i < n) : Calls Tryd.prog 21 #[.pointer (some ⟨b, 0, none⟩), .int .i64 i] w fun e w' => e = .returned (.bool true) ∧ w = w' := by
  have h1 : (0 : Int) ≤ i := by omega
  have h2 : (i : Int) < n := by omega
  go_enter Tryd.func21, Tryd.ntmps21
  go_wp2
  go_ret
  exact ⟨rfl, rfl⟩
theorem rthere_no (b n cap : Nat) (ao : Option Addr) (i : Int) (w : World) (c0 : w.cell? ⟨b, 0, none⟩ = some (.slice ao n cap)) (hi : i < 0 ∨ (n : Int) ≤ i) : Calls Tryd.prog 21 #[.pointer (some ⟨b, 0, none⟩), .int .i64 i] w fun e w' => e = .returned (.bool false) ∧ w = w' := by
  rcases hi with h | h
  · have h1 : ¬ (0 : Int) ≤ i := by omega
    have h2 : decide (0 ≤ i) = false := by simp; omega
    go_enter Tryd.func21, Tryd.ntmps21
    go_wp2
    go_ret
    exact ⟨rfl, rfl⟩
  · have h1 : (0 : Int) ≤ i := by omega
    have h2 : ¬ i < (n : Int) := by omega
    go_enter Tryd.func21, Tryd.ntmps21
    go_wp2
    go_ret
    first | exact ⟨rfl, rfl⟩ | exact ⟨ret_bool (by simp; omega), rfl⟩
set_option maxRecDepth 100000 in
theorem or_16 : ∀ a : Nat, a < 16 → ∀ x : Nat, x < 16 → bits BinOp.or IntKind.i64 (a : Int) (x : Int) = ((a ||| x : Nat) : Int) := by decide +kernel
theorem RefG.put {w : World} {b n : Nat} {v : Value} {rw' : Nat → Nat} {L : Nat → Nat → Nat} (h : RefG w b n v rw' L) (f t x : Nat) (hf : f < n) (ht : t < n) (hx : x < 16) :
    RefG (w.setCell ⟨rw' f, t, none⟩ (.int .i64 (L f t ||| x : Nat))) b n v rw' (addL L f t x 4) := by
  obtain ⟨cur, h1, h2, h3⟩ := h.each f hf
  have hb : Beside (rw' f) w (w.setCell ⟨rw' f, t, none⟩ (.int .i64 (L f t ||| x : Nat))) := (Beside.refl _ w).setCell (p := ⟨rw' f, t, none⟩) rfl _
  refine ⟨(hb.block b (blt h.box) (tags h.box h1 (by decide))).trans h.box, ?_, fun i hi => ?_, h.apart, addL_small L f t x 4 h.small hx, h.bound⟩
  · refine World.ownsRow.kept (row := some (rw' f)) h.rows ⟨hb.os, hb.tape, hb.output, hb.size, fun k hk hn => hb.block k hk (fun e => hn (by rw [e]))⟩ ?_
    rcases h.rows.2 with ⟨hv, _⟩ | ⟨g, cap, cur', hv, _, k2, _⟩
    · rw [hv]; exact .inl rfl
    · rw [hv]
      right
      simp [Value.ownBlock]
      exact tags k2 h1 (by decide)
  · by_cases e : i = f
    · subst e
      refine ⟨cur.setIfInBounds t (.int .i64 (L i t ||| x : Nat)), Go.Joins.block_setCell h1 _, by simpa using h2, fun j hj => ?_⟩
      rw [Array.getElem?_setIfInBounds]
      unfold addL
      by_cases e2 : t = j
      · subst e2
        rw [if_pos rfl, if_pos (by omega), if_pos ⟨rfl, rfl⟩, low_4 x hx]
      · rw [if_neg e2, if_neg (fun h => e2 h.2.symm)]
        exact h3 j hj
    · obtain ⟨cur2, k1, k2, k3⟩ := h.each i hi
      refine ⟨cur2, (hb.block _ (blt k1) (h.apart i f hi hf e)).trans k1, k2, fun j hj => ?_⟩
      unfold addL
      rw [if_neg (fun h => e h.1)]
      exact k3 j hj

set_option maxHeartbeats 4000000 in
theorem rgadd_ok (b n : Nat) (v : Value) (rw' : Nat → Nat) (L : Nat → Nat → Nat) (f T x : Nat) (w : World) (h : RefG w b n v rw' L) (hf : f < n) (hT : T < n) (hx1 : 1 ≤ x) (hx : x < 16) (hne : f ≠ T) :
    Calls Tryd.prog 13 #[.pointer (some ⟨b, 0, none⟩), .int .i64 f, .int .i64 T, .int .i64 x] w fun e w' => e = .returned (.int .i64 0) ∧ RefG w' b n v rw' (addL L f T x 4) ∧ Beside (rw' f) w w' ∧ w'.heap.size = w.heap.size := by
  have P := hid (h.put f T x hf hT hx)
  have ho := or_16 (L f T) (h.small f T) x hx
  obtain ⟨ao, cap, rfl, hr⟩ := h.form
  have c0 := h.c0
  obtain ⟨R, rfl, c1⟩ := hr f hf
  obtain ⟨c2, f2⟩ := h.cell f T hf hT
  have T1 := hid (rthere_ok b n cap _ f w c0 hf)
  have T2 := hid (rthere_ok b n cap _ T w c0 hT)
  have h1 : (f : Int) < n := by omega
  have h2 : (T : Int) < n := by omega
  have hn3 := h.bound
  have q1 : (1 : Int) ≤ x := by omega
  have q2 : (x : Int) ≤ 15 := by omega
  have q3 : ((f : Int) == (T : Int)) = false := by simp; omega
  clear h hr
  obtain ⟨y, hy⟩ : ∃ y, L f T = y := ⟨_, rfl⟩
  rw [hy] at c2 ho P
  clear hy
  obtain ⟨z, hz⟩ : ∃ z, y ||| x = z := ⟨_, rfl⟩
  rw [hz] at ho P
  clear hz
  go_enter Tryd.func13, Tryd.ntmps13
  go_wp2_with fail
  refine T1.out.mono ?_
  rintro e w' ⟨rfl, rfl⟩
  go_wp2_with fail
  refine T2.out.mono ?_
  rintro e w' ⟨rfl, rfl⟩
  go_wp2_with fail
  go_region
  all_goals (try go_wp2_with fail)
  all_goals
    go_ret
    exact ⟨rfl, P.out.later ((Below.refl _ _).drew), ((Beside.refl (rw' f) w).setCell (p := ⟨rw' f, T, none⟩) rfl _).drewN 1, by simp [World.setCell]⟩
theorem rgadd_no (b n : Nat) (v : Value) (rw' : Nat → Nat) (L : Nat → Nat → Nat) (f t x : Int) (w : World) (h : RefG w b n v rw' L) (hw : addWhy n f t x ≠ 0) :
    Calls Tryd.prog 13 #[.pointer (some ⟨b, 0, none⟩), .int .i64 f, .int .i64 t, .int .i64 x] w fun e w' => e = .returned (.int .i64 (addWhy n f t x)) ∧ w = w' := by
  obtain ⟨ao, cap, rfl, hr⟩ := h.form
  have c0 := h.c0
  clear h hr
  by_cases hf : f < 0 ∨ (n : Int) ≤ f
  · have e : addWhy n f t x = 60 := by unfold addWhy; rw [if_pos (.inl hf)]
    rw [e]
    have H1 := hid (rthere_no b n cap _ f w c0 hf)
    clear hf hw e c0
    go_enter Tryd.func13, Tryd.ntmps13
    go_wp2_with fail
    refine H1.out.mono ?_
    rintro e w' ⟨rfl, rfl⟩
    go_wp2_with fail
    go_ret
    exact ⟨rfl, rfl⟩
  · obtain ⟨F, rfl⟩ : ∃ F : Nat, f = F := ⟨f.toNat, by omega⟩
    have H1 := hid (rthere_ok b n cap _ F w c0 (by omega))
    by_cases ht : t < 0 ∨ (n : Int) ≤ t
    · have e : addWhy n F t x = 60 := by unfold addWhy; rw [if_pos (.inr ht)]
      rw [e]
      have H2 := hid (rthere_no b n cap _ t w c0 ht)
      clear hf ht hw e c0
      go_enter Tryd.func13, Tryd.ntmps13
      go_wp2_with fail
      refine H1.out.mono ?_
      rintro e w' ⟨rfl, rfl⟩
      go_wp2_with fail
      refine H2.out.mono ?_
      rintro e w' ⟨rfl, rfl⟩
      go_wp2_with fail
      go_ret
      exact ⟨rfl, rfl⟩
    · obtain ⟨T, rfl⟩ : ∃ T : Nat, t = T := ⟨t.toNat, by omega⟩
      have H2 := hid (rthere_ok b n cap _ T w c0 (by omega))
      have hb : x < 1 ∨ 15 < x ∨ (F : Int) = T := by
        unfold addWhy at hw
        rw [if_neg (by omega)] at hw
        apply Classical.byContradiction
        intro h
        rw [if_neg h] at hw
        exact hw rfl
      have e : addWhy n F T x = 1 := by unfold addWhy; rw [if_neg (by omega), if_pos hb]
      rw [e]
      clear hw e c0 hf ht
      by_cases b1 : x < 1
      · go_enter Tryd.func13, Tryd.ntmps13
        go_wp2_with fail
        refine H1.out.mono ?_
        rintro e w' ⟨rfl, rfl⟩
        go_wp2_with fail
        refine H2.out.mono ?_
        rintro e w' ⟨rfl, rfl⟩
        go_wp2_with fail
        go_ret
        exact ⟨rfl, rfl⟩
      · by_cases b2 : 15 < x
        · have b3 : ¬ x < 1 := by omega
          go_enter Tryd.func13, Tryd.ntmps13
          go_wp2_with fail
          refine H1.out.mono ?_
          rintro e w' ⟨rfl, rfl⟩
          go_wp2_with fail
          refine H2.out.mono ?_
          rintro e w' ⟨rfl, rfl⟩
          go_wp2_with fail
          go_ret
          exact ⟨rfl, rfl⟩
        · have b3 : (1 : Int) ≤ x := by omega
          have b4 : x ≤ 15 := by omega
          have b5 : ((F : Int) == (T : Int)) = true := by simp; omega
          clear hb b1 b2
          go_enter Tryd.func13, Tryd.ntmps13
          go_wp2_with fail
          refine H1.out.mono ?_
          rintro e w' ⟨rfl, rfl⟩
          go_wp2_with fail
          refine H2.out.mono ?_
          rintro e w' ⟨rfl, rfl⟩
          go_wp2_with fail
          go_ret
          exact ⟨rfl, rfl⟩
end Go.Proofs.YtbcegdiabnapkabDoor
