/-
  The document's Reaches.
-/
import Derived.Test.YtjgmkigfpjmlaaaDoorZH
namespace Go.Proofs.YtjgmkigfpjmlaaaDoor
set_option linter.unusedVariables false
set_option linter.unusedSimpArgs false
open Go.RowKit

theorem Tryd.info4b : (Tryd.prog.info? 4).map (fun i => (i.zero, i.size, i.bytes)) = some (some (.bool false), 1, 1) := by kernel_rfl
theorem made_bl (m : Nat) : madeCells #[Value.bool false] m = Array.replicate m (Value.bool false) := by
  apply Array.ext
  · simp [madeCells]
  · intro i h1 h2
    have h0 : i % 1 = 0 := by omega
    simp [madeCells, h0]
/-- A row of bools in block g. -/
def LayB (w : World) (g n : Nat) (M : Nat → Bool) : Prop := ∃ cur : Array Value, w.heap[g]? = some (.cells cur 4) ∧ cur.size = n ∧ ∀ j, j < n → cur[j]? = some (.bool (M j))
theorem LayB.cell {w : World} {g n : Nat} {M : Nat → Bool} (h : LayB w g n M) (j : Nat) (hj : j < n) : w.cell? ⟨g, j, none⟩ = some (.bool (M j)) ∧ w.frozen? ⟨g, j, none⟩ = false := by
  obtain ⟨cur, h1, h2, h3⟩ := h
  exact ⟨(Lib.cell_of_heap h1 j).trans (h3 j hj), Lib.frozen_of_heap h1 j⟩
theorem LayB.put {w : World} {g n : Nat} {M : Nat → Bool} (h : LayB w g n M) (i : Nat) (hi : i < n) : LayB (w.setCell ⟨g, i, none⟩ (.bool true)) g n (fun k => k == i || M k) := by
  obtain ⟨cur, h1, h2, h3⟩ := h
  refine ⟨cur.setIfInBounds i (.bool true), Go.Joins.block_setCell h1 _, by simpa using h2, fun j hj => ?_⟩
  by_cases e : j = i
  · subst e
    rw [Array.getElem?_setIfInBounds_self_of_lt (by omega)]
    simp
  · rw [Array.getElem?_setIfInBounds_ne (fun e' => e e'.symm), h3 j hj]
    simp [e]
theorem LayB.gro {P : Nat → Prop} {w w' : World} {g n : Nat} {M : Nat → Bool} (h : LayB w g n M) (hg : Gro P w w') (hn : ¬ P g) : LayB w' g n M := by
  obtain ⟨cur, h1, h2⟩ := h
  exact ⟨cur, hg.at h1 hn, h2⟩
theorem LayB.later {w w' : World} {g n : Nat} {M : Nat → Bool} (h : LayB w g n M) (hb : Below w.heap.size w w') : LayB w' g n M := h.gro (Gro.of_below (P := fun _ => False) hb) (fun h => h)
theorem Ints.part {B : Nat} {P : Nat → Prop} {w : World} {v : Value} {l : List Nat} (h : Ints B w v l) (hP : ∀ g, B ≤ g → P g) : Part P w v (l.map fun x : Nat => (x : Int)) := by
  rcases h.2 with ⟨rfl, hn⟩ | ⟨g, cap, cur, hv, hb, hg, h1, h2, h3, h4⟩
  · rw [List.length_eq_zero_iff.1 hn]
    exact .inl ⟨rfl, rfl⟩
  · refine .inr ⟨g, 0, cap, cur, by rw [List.length_map]; exact hv, hP g hb, hg, by rw [List.length_map]; exact h1, h2, by omega, fun j hj => ?_⟩
    rw [List.length_map] at hj
    have e : cur.toList[j]? = (cur.toList.take (l.length * 1))[j]? := by rw [List.getElem?_take, if_pos (by omega)]
    rw [Nat.zero_add, ← Array.getElem?_toList, e, h4]
    simp [intsV, List.getElem?_map, List.getD, hj]

set_option maxHeartbeats 8000000 in
set_option maxRecDepth 100000 in
theorem reaches_is (b n : Nat) (v : Value) (rw' : Nat → Nat) (L : Nat → Nat → Nat) (labels : Int) (s : Nat) (w : World) (h : RefG w b n v rw' L) (hs : s < n) (hn : n < 60) :
    Calls Tryd.prog 31 #[.pointer (some ⟨b, 0, none⟩), .int .i64 labels, .int .i64 s] w fun e w' => (∃ mk M, e = .returned (.slice (some ⟨mk, 0, none⟩) n n) ∧ LayB w' mk n M ∧ ∀ x, M x = true ↔ Rch (edge L labels) n s x) ∧ Below w.heap.size w w' := by
  have hmk := run_make_row' (P := Tryd.prog) 70 4 (.bool false) 1 Tryd.underlying70 Tryd.info4b rfl .i64 .i64 n (by omega) (by omega)
  rw [made_bl] at hmk
  have R := hid h
  have hni : (n : Int) < 60 := by omega
  have hn0 : (0 : Int) ≤ n := by omega
  obtain ⟨ao, cap, hv, -⟩ := h.form
  have c0 := h.c0
  rw [hv] at c0
  clear h hv
  go_enter Tryd.func31, Tryd.ntmps31
  go_wp2_with fail
  clear hmk c0
  have B0 : Hid (Below w.heap.size w (w.alloc (.cells (Array.replicate n (.bool false)) 4))) := below_box _ _
  have L0 : Hid (LayB (w.alloc (.cells (Array.replicate n (.bool false)) 4)) w.heap.size n (fun _ => false)) := ⟨_, heap_alloc_new w _, by simp, fun j hj => by simp [hj]⟩
  have SZ : Hid ((w.alloc (.cells (Array.replicate n (.bool false)) 4)).heap.size = w.heap.size + 1) := World.size_alloc _ _
  generalize w.alloc (.cells (Array.replicate n (.bool false)) 4) = W0 at *
  go_at_call 54
  refine (rout_ok b n v rw' L s labels W0 (R.out.later B0.out) hs).mono ?_
  rintro e w1 ⟨⟨u1, rfl, i1⟩, b1⟩
  have B1 := hid (B0.out.trans (b1.mono B0.out.size))
  have L1 := hid (L0.out.later b1)
  have P1 : Hid (Part (fun g => g ≠ w.heap.size ∧ w.heap.size ≤ g) w1 u1 ((lst (edge L labels s) n).map fun x : Nat => (x : Int))) := i1.part (fun g hg => by have := SZ.out; omega)
  have hf := leftM_first n (edge L labels s)
  have hnn : n * (n + 1) ≤ 59 * 60 := Nat.mul_le_mul (by omega) (by omega)
  clear i1 b1 B0 L0
  go_wp2_with fail
  go_loopg [8] 3700 (fun g qv wr => ∃ (M : Nat → Bool) (l : List Nat), leftM n M l ≤ g ∧ leftM n M l ≤ 3700 ∧ Aside (Mt (edge L labels) n s M l) ∧ Aside (Part (fun g => g ≠ w.heap.size ∧ w.heap.size ≤ g) wr qv (l.map fun x : Nat => (x : Int))) ∧ Aside (LayB wr w.heap.size n M) ∧ Aside (Below w.heap.size w wr))
  case atStart => exact ⟨_, _, by omega, by omega, Mt.first _ n s hs, P1.out, L1.out, B1.out⟩
  case round =>
    clear P1 L1 B1 hf
    obtain ⟨M, l, hg, hb, MT, PX, LX, BX⟩ := hrel
    cases l with
    | nil =>
      have EN := hid MT.out.ends
      obtain ⟨qa, qc, rfl⟩ := PX.out.form
      rw [List.map_nil, List.length_nil]
      clear MT PX
      go_wp2_with fail
      go_ret
      first | exact ⟨⟨_, M, rfl, LX.out, EN.out⟩, BX.out⟩ | exact ⟨⟨_, rfl, M, LX.out, EN.out⟩, BX.out⟩
    | cons u l =>
      have hun := (MT.out.que u (by simp)).1
      have hll : l.length < 3700 := by have : leftM n M (u :: l) = _ := rfl; unfold leftM at hb; rw [List.length_cons] at hb; omega
      rcases PX.out with ⟨_, h0⟩ | ⟨g, off, qc, cur, rfl, hPg, hgg, hc1, hc2, hsz, hat⟩
      · cases h0
      have c1 : wr.cell? ⟨g, off, none⟩ = some (.int .i64 u) := (Lib.cell_of_heap hgg off).trans (hat 0 (by simp))
      rw [List.map_cons, List.length_cons, List.length_map] at hc1 ⊢
      have hli : (0 : Int) < (l.length : Int) + 1 := by omega
      have hll2 : (l.length : Int) < 3700 := by omega
      unfold maxLen at hc2
      have hqi : (qc : Int) ≤ 9223372036854775807 := by omega
      have hqc : (l.length : Int) + 1 ≤ qc := by omega
      have hui : (u : Int) < n := by omega
      obtain ⟨cm, fm⟩ := LX.out.cell u hun
      have NXT : Hid (∃ off' cap', (if qc = 1 then (off, 0) else (off + 1, qc - 1)) = (off', cap') ∧ l.length ≤ cap' ∧ cap' ≤ maxLen ∧ off' + cap' ≤ cur.size ∧ ∀ j, j < l.length → cur[off' + j]? = some (.int .i64 ((l.map fun x : Nat => (x : Int)).getD j 0))) := by
        have hat' : ∀ j, j < l.length → cur[off + 1 + j]? = some (.int .i64 ((l.map fun x : Nat => (x : Int)).getD j 0)) := fun j hj => by
          have := hat (j + 1) (by simp; omega)
          rw [show off + (j + 1) = off + 1 + j from by omega] at this
          simpa using this
        by_cases h1 : qc = 1
        · have h0 : l.length = 0 := by omega
          exact ⟨off, 0, by rw [if_pos h1], by omega, by simp [maxLen], by omega, fun j hj => by omega⟩
        · exact ⟨off + 1, qc - 1, by rw [if_neg h1], by omega, by unfold maxLen; omega, by omega, hat'⟩
      have HG := hid hgg
      have HP := hid hPg
      clear hgg hPg hat
      by_cases h1 : qc = 1
      · subst h1
        obtain ⟨off', cap', e, k1, k2, k3, k4⟩ := NXT.out
        rw [if_pos rfl] at e
        injection e with e1 e2
        subst e1
        subst e2
        have hl0 : l = [] := List.length_eq_zero_iff.1 (by omega)
        subst hl0
        cases hM : M u with
        | true =>
          rw [hM] at cm
          have MS := hid (MT.out.skip hM)
          have LS := leftM_skip n M u ([] : List Nat)
          have PN : Hid (Part (fun g => g ≠ w.heap.size ∧ w.heap.size ≤ g) wr (.slice (some ⟨g, off, none⟩) 0 0) (([] : List Nat).map fun x : Nat => (x : Int))) :=   .inr ⟨g, off, 0, cur, rfl, HP.out, HG.out, by simp, k2, k3, by rw [List.length_map]; exact k4⟩
          clear MT PX NXT hM k4
          go_wp2_with fail
          go_roundg (leftM n M ([] : List Nat))
          · exact ⟨M, ([] : List Nat), Nat.le_refl _, by omega, MS.out, PN.out, LX.out, BX.out⟩
          · omega
        | false =>
          rw [hM] at cm
          have MG := hid MT.out.go
          have LG := leftM_go n M u ([] : List Nat) (edge L labels u) hun hM
          have LN := hid (LX.out.put u hun)
          have BN : Hid (Below w.heap.size w (wr.setCell ⟨w.heap.size, u, none⟩ (.bool true))) := BX.out.setCell (Nat.le_refl _) _
          have GN : Hid ((wr.setCell ⟨w.heap.size, u, none⟩ (.bool true)).heap[g]? = some (.cells cur 3)) := (Below.heap_setCell wr ⟨w.heap.size, u, none⟩ (.bool true) g HP.out.1).trans HG.out
          have K4 := hid k4
          have K2 := hid k2
          have K3 := hid k3
          clear MT PX NXT hM LX BX HG k4 k2 k3
          go_wp2_with fail
          generalize wr.setCell ⟨w.heap.size, u, none⟩ (.bool true) = W2 at *
          go_at_call 54
          refine (rout_ok b n v rw' L u labels W2 (R.out.later BN.out) hun).mono ?_
          rintro e w3 ⟨⟨u3, rfl, i3⟩, b3⟩
          have I3 := hid i3
          have G3 : Hid (w3.heap[g]? = some (.cells cur 3)) := (b3.block g (blt GN.out)).trans GN.out
          have L3 := hid (LN.out.later b3)
          have B3 := hid (BN.out.trans (b3.mono BN.out.size))
          have SZ3 : Hid (w.heap.size < w3.heap.size) := by obtain ⟨c, h1, _⟩ := L3.out; exact blt h1
          have LL := hid (lst_le (edge L labels u) n)
          obtain ⟨xa, xl, xc, rfl⟩ : ∃ x y z, u3 = .slice x y z := by obtain ⟨x, y, e⟩ := i3.form; exact ⟨x, _, y, e⟩
          clear i3 b3 LN BN GN
          go_wp2_with (at_builtin; refine wpList_append_many _ rfl _ _ rfl (fun g => g ≠ w.heap.size ∧ w.heap.size ≤ g) (fun g hg => by have := SZ3.out; omega) (([] : List Nat).map fun x : Nat => (x : Int)) g (off) (0) cur (by rw [List.length_map]; rfl) HP.out G3.out (by rw [List.length_map]; exact k1) K2.out K3.out (by rw [List.length_map]; exact K4.out) _ _ _ rfl I3.out (by have := LL.out; rw [List.length_map]; have e : (lst (endsF L u labels 4) n).length = (lst (edge L labels u) n).length := rfl; omega) ?_; intro v' w4 q1 q2; obtain ⟨ao', nl', cp', rfl⟩ : ∃ x y z, v' = .slice x y z := (by obtain ⟨x, y, e⟩ := q1.form; exact ⟨x, _, y, e⟩); have Q1 := hid q1; have L4 := hid (L3.out.gro q2 (fun h => h.1 rfl)); have B4 := hid (B3.out.trans (q2.below w.heap.size (fun k hk => hk.2) B3.out.size)); clear q1 q2)
          go_roundg (leftM n (fun k => k == u || M k) (([] : List Nat) ++ lst (edge L labels u) n))
          · exact ⟨_, _, Nat.le_refl _, by omega, MG.out, by show Part _ _ _ _; rw [List.map_append]; exact Q1.out, L4.out, B4.out⟩
          · omega
      · obtain ⟨off', cap', e, k1, k2, k3, k4⟩ := NXT.out
        rw [if_neg h1] at e
        injection e with e1 e2
        subst e1
        subst e2
        cases hM : M u with
        | true =>
          rw [hM] at cm
          have MS := hid (MT.out.skip hM)
          have LS := leftM_skip n M u l
          have PN : Hid (Part (fun g => g ≠ w.heap.size ∧ w.heap.size ≤ g) wr (.slice (some ⟨g, off + 1, none⟩) l.length (qc - 1)) (l.map fun x : Nat => (x : Int))) := .inr ⟨g, off + 1, (qc - 1), cur, by rw [List.length_map], HP.out, HG.out, by rw [List.length_map]; exact k1, k2, k3, by rw [List.length_map]; exact k4⟩
          clear MT PX NXT hM k4
          go_wp2_with fail
          go_roundg (leftM n M l)
          · exact ⟨M, l, Nat.le_refl _, by omega, MS.out, PN.out, LX.out, BX.out⟩
          · omega
        | false =>
          rw [hM] at cm
          have MG := hid MT.out.go
          have LG := leftM_go n M u l (edge L labels u) hun hM
          have LN := hid (LX.out.put u hun)
          have BN : Hid (Below w.heap.size w (wr.setCell ⟨w.heap.size, u, none⟩ (.bool true))) := BX.out.setCell (Nat.le_refl _) _
          have GN : Hid ((wr.setCell ⟨w.heap.size, u, none⟩ (.bool true)).heap[g]? = some (.cells cur 3)) := (Below.heap_setCell wr ⟨w.heap.size, u, none⟩ (.bool true) g HP.out.1).trans HG.out
          have K4 := hid k4
          have K2 := hid k2
          have K3 := hid k3
          clear MT PX NXT hM LX BX HG k4 k2 k3
          go_wp2_with fail
          generalize wr.setCell ⟨w.heap.size, u, none⟩ (.bool true) = W2 at *
          go_at_call 54
          refine (rout_ok b n v rw' L u labels W2 (R.out.later BN.out) hun).mono ?_
          rintro e w3 ⟨⟨u3, rfl, i3⟩, b3⟩
          have I3 := hid i3
          have G3 : Hid (w3.heap[g]? = some (.cells cur 3)) := (b3.block g (blt GN.out)).trans GN.out
          have L3 := hid (LN.out.later b3)
          have B3 := hid (BN.out.trans (b3.mono BN.out.size))
          have SZ3 : Hid (w.heap.size < w3.heap.size) := by obtain ⟨c, h1, _⟩ := L3.out; exact blt h1
          have LL := hid (lst_le (edge L labels u) n)
          obtain ⟨xa, xl, xc, rfl⟩ : ∃ x y z, u3 = .slice x y z := by obtain ⟨x, y, e⟩ := i3.form; exact ⟨x, _, y, e⟩
          clear i3 b3 LN BN GN
          go_wp2_with (at_builtin; refine wpList_append_many _ rfl _ _ rfl (fun g => g ≠ w.heap.size ∧ w.heap.size ≤ g) (fun g hg => by have := SZ3.out; omega) (l.map fun x : Nat => (x : Int)) g (off + 1) ((qc - 1)) cur (by rw [List.length_map]; rfl) HP.out G3.out (by rw [List.length_map]; exact k1) K2.out K3.out (by rw [List.length_map]; exact K4.out) _ _ _ rfl I3.out (by have := LL.out; rw [List.length_map]; have e : (lst (endsF L u labels 4) n).length = (lst (edge L labels u) n).length := rfl; omega) ?_; intro v' w4 q1 q2; obtain ⟨ao', nl', cp', rfl⟩ : ∃ x y z, v' = .slice x y z := (by obtain ⟨x, y, e⟩ := q1.form; exact ⟨x, _, y, e⟩); have Q1 := hid q1; have L4 := hid (L3.out.gro q2 (fun h => h.1 rfl)); have B4 := hid (B3.out.trans (q2.below w.heap.size (fun k hk => hk.2) B3.out.size)); clear q1 q2)
          go_roundg (leftM n (fun k => k == u || M k) (l ++ lst (edge L labels u) n))
          · exact ⟨_, _, Nat.le_refl _, by omega, MG.out, by show Part _ _ _ _; rw [List.map_append]; exact Q1.out, L4.out, B4.out⟩
          · omega
end Go.Proofs.YtjgmkigfpjmlaaaDoor
