/-
  The document's Reaches.
-/
import Derived.Test.YtjgmkigfpjmlaaaDoorZH
import Derived.Test.YtjgmkigfpjmlaaaDoorZC14
namespace Go.Proofs.YtjgmkigfpjmlaaaDoor
set_option linter.unusedVariables false
set_option linter.unusedSimpArgs false
open Go.RowKit

theorem Tryd.info4b : (Tryd.prog.info? 4).map (fun i => (i.zero, i.size, i.bytes)) = some (some (.bool false), 1, 1) := by kernel_rfl
theorem made_bl (m : Nat) : madeCells #[Value.bool false] m = Array.replicate m (Value.bool false) := by
  apply Array.ext
  · simp [madeCells]
  · intro i h1 h2
    have h0 : i % 1 = 0 := by omega
    simp [madeCells, h0]
/-- A row of bools in block g. -/
def LayB (w : World) (g n : Nat) (M : Nat → Bool) : Prop := ∃ cur : Array Value, w.heap[g]? = some (.cells cur 4) ∧ cur.size = n ∧ ∀ j, j < n → cur[j]? = some (.bool (M j))
theorem LayB.cell {w : World} {g n : Nat} {M : Nat → Bool} (h : LayB w g n M) (j : Nat) (hj : j < n) : w.cell? ⟨g, j, none⟩ = some (.bool (M j)) ∧ w.frozen? ⟨g, j, none⟩ = false := by
  obtain ⟨cur, h1, h2, h3⟩ := h
  exact ⟨(Lib.cell_of_heap h1 j).trans (h3 j hj), Lib.frozen_of_heap h1 j⟩
theorem LayB.put {w : World} {g n : Nat} {M : Nat → Bool} (h : LayB w g n M) (i : Nat) (hi : i < n) : LayB (w.setCell ⟨g, i, none⟩ (.bool true)) g n (fun k => k == i || M k) := by
  obtain ⟨cur, h1, h2, h3⟩ := h
  refine ⟨cur.setIfInBounds i (.bool true), Go.Joins.block_setCell h1 _, by simpa using h2, fun j hj => ?_⟩
  by_cases e : j = i
  · subst e
    rw [Array.getElem?_setIfInBounds_self_of_lt (by omega)]
    simp
  · rw [Array.getElem?_setIfInBounds_ne (fun e' => e e'.symm), h3 j hj]
    simp [e]
theorem LayB.gro {P : Nat → Prop} {w w' : World} {g n : Nat} {M : Nat → Bool} (h : LayB w g n M) (hg : Gro P w w') (hn : ¬ P g) : LayB w' g n M := by
  obtain ⟨cur, h1, h2⟩ := h
  exact ⟨cur, hg.at h1 hn, h2⟩
theorem LayB.later {w w' : World} {g n : Nat} {M : Nat → Bool} (h : LayB w g n M) (hb : Below w.heap.size w w') : LayB w' g n M := h.gro (Gro.of_below (P := fun _ => False) hb) (fun h => h)
theorem Ints.part {B : Nat} {P : Nat → Prop} {w : World} {v : Value} {l : List Nat} (h : Ints B w v l) (hP : ∀ g, B ≤ g → P g) : Part P w v (l.map fun x : Nat => (x : Int)) := by
  rcases h.2 with ⟨rfl, hn⟩ | ⟨g, cap, cur, hv, hb, hg, h1, h2, h3, h4⟩
  · rw [List.length_eq_zero_iff.1 hn]
    exact .inl ⟨rfl, rfl⟩
  · refine .inr ⟨g, 0, cap, cur, by rw [List.length_map]; exact hv, hP g hb, hg, by rw [List.length_map]; exact h1, h2, by omega, fun j hj => ?_⟩
    rw [List.length_map] at hj
    have e : cur.toList[j]? = (cur.toList.take (l.length * 1))[j]? := by rw [List.getElem?_take, if_pos (by omega)]
    rw [Nat.zero_add, ← Array.getElem?_toList, e, h4]
    simp [intsV, List.getElem?_map, List.getD, hj]

set_option maxHeartbeats 8000000 in
set_option maxRecDepth 100000 in
theorem reaches_is (b n : Nat) (v : Value) (rw' : Nat → Nat) (L : Nat → Nat → Nat) (labels : Int) (s : Nat) (w : World) (h : RefG w b n v rw' L) (hs : s < n) (hn : n < 60) :
    Calls Tryd.prog 31 #[.pointer (some ⟨b, 0, none⟩), .int .i64 labels, .int .i64 s] w fun e w' => (∃ mk M, e = .returned (.slice (some ⟨mk, 0, none⟩) n n) ∧ LayB w' mk n M ∧ ∀ x, M x = true ↔ Rch (edge L labels) n s x) ∧ Below w.heap.size w w' := by
  have hmk := run_make_row' (P := Tryd.prog) 70 4 (.bool false) 1 Tryd.underlying70 Tryd.info4b rfl .i64 .i64 n (by omega) (by omega)
  rw [made_bl] at hmk
  have R := hid h
  have hni : (n : Int) < 60 := by omega
  have hn0 : (0 : Int) ≤ n := by omega
  obtain ⟨ao, cap, hv, -⟩ := h.form
  have c0 := h.c0
  rw [hv] at c0
  clear h hv
  go_enter Tryd.func31, Tryd.ntmps31
  go_wp2_with fail
  clear hmk c0
  have B0 : Hid (Below w.heap.size w (w.alloc (.cells (Array.replicate n (.bool false)) 4))) := below_box _ _
  have L0 : Hid (LayB (w.alloc (.cells (Array.replicate n (.bool false)) 4)) w.heap.size n (fun _ => false)) := ⟨_, heap_alloc_new w _, by simp, fun j hj => by simp [hj]⟩
  have SZ : Hid ((w.alloc (.cells (Array.replicate n (.bool false)) 4)).heap.size = w.heap.size + 1) := World.size_alloc _ _
  generalize w.alloc (.cells (Array.replicate n (.bool false)) 4) = W0 at *
  go_at_call 54
  refine (rout_ok b n v rw' L s labels W0 (R.out.later B0.out) hs).mono ?_
  rintro e w1 ⟨⟨u1, rfl, i1⟩, b1⟩
  have B1 := hid (B0.out.trans (b1.mono B0.out.size))
  have L1 := hid (L0.out.later b1)
  have P1 : Hid (Part (fun g => g ≠ w.heap.size ∧ w.heap.size ≤ g) w1 u1 ((lst (edge L labels s) n).map fun x : Nat => (x : Int))) := i1.part (fun g hg => by have := SZ.out; omega)
  have hf := leftM_first n (edge L labels s)
  have hnn : n * (n + 1) ≤ 59 * 60 := Nat.mul_le_mul (by omega) (by omega)
  clear i1 b1 B0 L0
  go_wp2_with fail
  go_loopg [8] 3700 (fun g qv wr => ∃ (M : Nat → Bool) (l : List Nat), leftM n M l ≤ g ∧ leftM n M l ≤ 3700 ∧ Aside (Mt (edge L labels) n s M l) ∧ Aside (Part (fun g => g ≠ w.heap.size ∧ w.heap.size ≤ g) wr qv (l.map fun x : Nat => (x : Int))) ∧ Aside (LayB wr w.heap.size n M) ∧ Aside (Below w.heap.size w wr))
  case atStart => exact ⟨_, _, by omega, by omega, Mt.first _ n s hs, P1.out, L1.out, B1.out⟩
  case round =>
    clear P1 L1 B1 hf
    obtain ⟨M, l, hg, hb, MT, PX, LX, BX⟩ := hrel
    cases l with
    | nil =>
      have EN := hid MT.out.ends
      obtain ⟨qa, qc, rfl⟩ := PX.out.form
      rw [List.map_nil, List.length_nil]
      clear MT PX
      go_wp2_with fail
      go_ret
      first | exact ⟨⟨_, M, rfl, LX.out, EN.out⟩, BX.out⟩ | exact ⟨⟨_, rfl, M, LX.out, EN.out⟩, BX.out⟩
    | cons u l =>
      have hun := (MT.out.que u (by simp)).1
      have hll : l.length < 3700 := by have : leftM n M (u :: l) = _ := rfl; unfold leftM at hb; rw [List.length_cons] at hb; omega
      rcases PX.out with ⟨_, h0⟩ | ⟨g, off, qc, cur, rfl, hPg, hgg, hc1, hc2, hsz, hat⟩
      · cases h0
      have c1 : wr.cell? ⟨g, off, none⟩ = some (.int .i64 u) := (Lib.cell_of_heap hgg off).trans (hat 0 (by simp))
      rw [List.map_cons, List.length_cons, List.length_map] at hc1 ⊢
      have hli : (0 : Int) < (l.length : Int) + 1 := by omega
      have hll2 : (l.length : Int) < 3700 := by omega
      unfold maxLen at hc2
      have hqi : (qc : Int) ≤ 9223372036854775807 := by omega
      have hqc : (l.length : Int) + 1 ≤ qc := by omega
      have hui : (u : Int) < n := by omega
      obtain ⟨cm, fm⟩ := LX.out.cell u hun
      have NXT : Hid (∃ off' cap', (if qc = 1 then (off, 0) else (off + 1, qc - 1)) = (off', cap') ∧ l.length ≤ cap' ∧ cap' ≤ maxLen ∧ off' + cap' ≤ cur.size ∧ ∀ j, j < l.length → cur[off' + j]? = some (.int .i64 ((l.map fun x : Nat => (x : Int)).getD j 0))) := by
        have hat' : ∀ j, j < l.length → cur[off + 1 + j]? = some (.int .i64 ((l.map fun x : Nat => (x : Int)).getD j 0)) := fun j hj => by
          have := hat (j + 1) (by simp; omega)
          rw [show off + (j + 1) = off + 1 + j from by omega] at this
          simpa using this
        by_cases h1 : qc = 1
        · have h0 : l.length = 0 := by omega
          exact ⟨off, 0, by rw [if_pos h1], by omega, by simp [maxLen], by omega, fun j hj => by omega⟩
        · exact ⟨off + 1, qc - 1, by rw [if_neg h1], by omega, by unfold maxLen; omega, by omega, hat'⟩
      have HG := hid hgg
      have HP := hid hPg
      clear hgg hPg hat
      by_cases h1 : qc = 1
      · subst h1
        obtain ⟨off', cap', e, k1, k2, k3, k4⟩ := NXT.out
        rw [if_pos rfl] at e
        injection e with e1 e2
        subst e1
        subst e2
        have hl0 : l = [] := List.length_eq_zero_iff.1 (by omega)
        subst hl0
        cases hM : M u with
        | true =>
          rw [hM] at cm
          have MS := hid (MT.out.skip hM)
          have LS := leftM_skip n M u ([] : List Nat)
          have PN : Hid (Part (fun g => g ≠ w.heap.size ∧ w.heap.size ≤ g) wr (.slice (some ⟨g, off, none⟩) 0 0) (([] : List Nat).map fun x : Nat => (x : Int))) :=   .inr ⟨g, off, 0, cur, rfl, HP.out, HG.out, by simp, k2, k3, by rw [List.length_map]; exact k4⟩
          clear MT PX NXT hM k4
          go_wp2_with fail
          go_roundg (leftM n M ([] : List Nat))
          · exact ⟨M, ([] : List Nat), Nat.le_refl _, by omega, MS.out, PN.out, LX.out, BX.out⟩
          · omega
        | false =>
          rw [hM] at cm
          have MG := hid MT.out.go
          have LG := leftM_go n M u ([] : List Nat) (edge L labels u) hun hM
          have LN := hid (LX.out.put u hun)
          have BN : Hid (Below w.heap.size w (wr.setCell ⟨w.heap.size, u, none⟩ (.bool true))) := BX.out.setCell (Nat.le_refl _) _
          have GN : Hid ((wr.setCell ⟨w.heap.size, u, none⟩ (.bool true)).heap[g]? = some (.cells cur 3)) := (Below.heap_setCell wr ⟨w.heap.size, u, none⟩ (.bool true) g HP.out.1).trans HG.out
          have K4 := hid k4
          have K2 := hid k2
          have K3 := hid k3
          clear MT PX NXT hM LX BX HG k4 k2 k3
          go_wp2_with fail
          generalize wr.setCell ⟨w.heap.size, u, none⟩ (.bool true) = W2 at *
          go_at_call 54
          refine (rout_ok b n v rw' L u labels W2 (R.out.later BN.out) hun).mono ?_
          rintro e w3 ⟨⟨u3, rfl, i3⟩, b3⟩
          have I3 := hid i3
          have G3 : Hid (w3.heap[g]? = some (.cells cur 3)) := (b3.block g (blt GN.out)).trans GN.out
          have L3 := hid (LN.out.later b3)
          have B3 := hid (BN.out.trans (b3.mono BN.out.size))
          have SZ3 : Hid (w.heap.size < w3.heap.size) := by obtain ⟨c, h1, _⟩ := L3.out; exact blt h1
          have LL := hid (lst_le (edge L labels u) n)
          obtain ⟨xa, xl, xc, rfl⟩ : ∃ x y z, u3 = .slice x y z := by obtain ⟨x, y, e⟩ := i3.form; exact ⟨x, _, y, e⟩
          clear i3 b3 LN BN GN
          go_wp2_with (at_builtin; refine wpList_append_many _ rfl _ _ rfl (fun g => g ≠ w.heap.size ∧ w.heap.size ≤ g) (fun g hg => by have := SZ3.out; omega) (([] : List Nat).map fun x : Nat => (x : Int)) g (off) (0) cur (by rw [List.length_map]; rfl) HP.out G3.out (by rw [List.length_map]; exact k1) K2.out K3.out (by rw [List.length_map]; exact K4.out) _ _ _ rfl I3.out (by have := LL.out; rw [List.length_map]; have e : (lst (endsF L u labels 4) n).length = (lst (edge L labels u) n).length := rfl; omega) ?_; intro v' w4 q1 q2; obtain ⟨ao', nl', cp', rfl⟩ : ∃ x y z, v' = .slice x y z := (by obtain ⟨x, y, e⟩ := q1.form; exact ⟨x, _, y, e⟩); have Q1 := hid q1; have L4 := hid (L3.out.gro q2 (fun h => h.1 rfl)); have B4 := hid (B3.out.trans (q2.below w.heap.size (fun k hk => hk.2) B3.out.size)); clear q1 q2)
          go_roundg (leftM n (fun k => k == u || M k) (([] : List Nat) ++ lst (edge L labels u) n))
          · exact ⟨_, _, Nat.le_refl _, by omega, MG.out, by show Part _ _ _ _; rw [List.map_append]; exact Q1.out, L4.out, B4.out⟩
          · omega
      · obtain ⟨off', cap', e, k1, k2, k3, k4⟩ := NXT.out
        rw [if_neg h1] at e
        injection e with e1 e2
        subst e1
        subst e2
        cases hM : M u with
        | true =>
          rw [hM] at cm
          have MS := hid (MT.out.skip hM)
          have LS := leftM_skip n M u l
          have PN : Hid (Part (fun g => g ≠ w.heap.size ∧ w.heap.size ≤ g) wr (.slice (some ⟨g, off + 1, none⟩) l.length (qc - 1)) (l.map fun x : Nat => (x : Int))) := .inr ⟨g, off + 1, (qc - 1), cur, by rw [List.length_map], HP.out, HG.out, by rw [List.length_map]; exact k1, k2, k3, by rw [List.length_map]; exact k4⟩
          clear MT PX NXT hM k4
          go_wp2_with fail
          go_roundg (leftM n M l)
          · exact ⟨M, l, Nat.le_refl _, by omega, MS.out, PN.out, LX.out, BX.out⟩
          · omega
        | false =>
          rw [hM] at cm
          have MG := hid MT.out.go
          have LG := leftM_go n M u l (edge L labels u) hun hM
          have LN := hid (LX.out.put u hun)
          have BN : Hid (Below w.heap.size w (wr.setCell ⟨w.heap.size, u, none⟩ (.bool true))) := BX.out.setCell (Nat.le_refl _) _
          have GN : Hid ((wr.setCell ⟨w.heap.size, u, none⟩ (.bool true)).heap[g]? = some (.cells cur 3)) := (Below.heap_setCell wr ⟨w.heap.size, u, none⟩ (.bool true) g HP.out.1).trans HG.out
          have K4 := hid k4
          have K2 := hid k2
          have K3 := hid k3
          clear MT PX NXT hM LX BX HG k4 k2 k3
          go_wp2_with fail
          generalize wr.setCell ⟨w.heap.size, u, none⟩ (.bool true) = W2 at *
          go_at_call 54
          refine (rout_ok b n v rw' L u labels W2 (R.out.later BN.out) hun).mono ?_
          rintro e w3 ⟨⟨u3, rfl, i3⟩, b3⟩
          have I3 := hid i3
          have G3 : Hid (w3.heap[g]? = some (.cells cur 3)) := (b3.block g (blt GN.out)).trans GN.out
          have L3 := hid (LN.out.later b3)
          have B3 := hid (BN.out.trans (b3.mono BN.out.size))
          have SZ3 : Hid (w.heap.size < w3.heap.size) := by obtain ⟨c, h1, _⟩ := L3.out; exact blt h1
          have LL := hid (lst_le (edge L labels u) n)
          obtain ⟨xa, xl, xc, rfl⟩ : ∃ x y z, u3 = .slice x y z := by obtain ⟨x, y, e⟩ := i3.form; exact ⟨x, _, y, e⟩
          clear i3 b3 LN BN GN
          go_wp2_with (at_builtin; refine wpList_append_many _ rfl _ _ rfl (fun g => g ≠ w.heap.size ∧ w.heap.size ≤ g) (fun g hg => by have := SZ3.out; omega) (l.map fun x : Nat => (x : Int)) g (off + 1) ((qc - 1)) cur (by rw [List.length_map]; rfl) HP.out G3.out (by rw [List.length_map]; exact k1) K2.out K3.out (by rw [List.length_map]; exact K4.out) _ _ _ rfl I3.out (by have := LL.out; rw [List.length_map]; have e : (lst (endsF L u labels 4) n).length = (lst (edge L labels u) n).length := rfl; omega) ?_; intro v' w4 q1 q2; obtain ⟨ao', nl', cp', rfl⟩ : ∃ x y z, v' = .slice x y z := (by obtain ⟨x, y, e⟩ := q1.form; exact ⟨x, _, y, e⟩); have Q1 := hid q1; have L4 := hid (L3.out.gro q2 (fun h => h.1 rfl)); have B4 := hid (B3.out.trans (q2.below w.heap.size (fun k hk => hk.2) B3.out.size)); clear q1 q2)
          go_roundg (leftM n (fun k => k == u || M k) (l ++ lst (edge L labels u) n))
          · exact ⟨_, _, Nat.le_refl _, by omega, MG.out, by show Part _ _ _ _; rw [List.map_append]; exact Q1.out, L4.out, B4.out⟩
          · omega
end Go.Proofs.YtjgmkigfpjmlaaaDoor

/-
  Plain: the document's way to the components.
-/
namespace Go.Proofs.YtjgmkigfpjmlaaaDoor
set_option linter.unusedVariables false
set_option linter.unusedSimpArgs false

section
variable {E : Nat → Nat → Bool} {n : Nat}
theorem rs_iff {u v : Nat} : Rs E n u v ↔ u = v ∨ Rch E n u v := by
  constructor
  · rintro ⟨r, hr⟩
    by_cases h : r = []
    · subst h; exact .inl hr
    · exact .inr ⟨r, h, hr⟩
  · rintro (rfl | ⟨r, _, hr⟩)
    · exact Rs.refl _ _ _
    · exact ⟨r, hr⟩
/-- Two nodes are of one component, by what each reaches. -/
def sameC (M : Nat → Nat → Bool) (k x : Nat) : Bool := x == k || (M k x && M x k)
theorem sameC_iff {M : Nat → Nat → Bool} (hM : ∀ u, u < n → ∀ x, M u x = true ↔ Rch E n u x) {k x : Nat} (hk : k < n) (hx : x < n) : sameC M k x = true ↔ Rs E n k x ∧ Rs E n x k := by
  unfold sameC
  rw [Bool.or_eq_true, Bool.and_eq_true, beq_iff_eq, hM k hk, hM x hx, rs_iff, rs_iff]
  constructor
  · rintro (rfl | ⟨h1, h2⟩)
    · exact ⟨.inl rfl, .inl rfl⟩
    · exact ⟨.inr h1, .inr h2⟩
  · rintro ⟨h1, h2⟩
    rcases h1 with rfl | h1
    · exact .inl rfl
    · rcases h2 with rfl | h2
      · exact .inl rfl
      · exact .inr ⟨h1, h2⟩
theorem lst_pair (f : Nat → Bool) (m : Nat) : (lst f m).Pairwise (· < ·) := by
  unfold lst
  exact List.Pairwise.filter _ List.pairwise_lt_range
theorem isComp_lst {M : Nat → Nat → Bool} (hM : ∀ u, u < n → ∀ x, M u x = true ↔ Rch E n u x) {k : Nat} (hk : k < n) : IsComp E n (lst (sameC M k) n) := by
  refine ⟨lst_pair _ _, k, hk, fun v => ?_⟩
  rw [mem_lst]
  constructor
  · rintro ⟨h1, h2⟩
    exact ⟨h1, (sameC_iff hM hk h1).1 h2⟩
  · rintro ⟨h1, h2⟩
    exact ⟨h1, (sameC_iff hM hk h1).2 h2⟩
/-- What the document's loop knows behind k nodes. -/
structure Rc (E : Nat → Nat → Bool) (n : Nat) (D : Nat → Bool) (cs : List (List Nat)) (k : Nat) : Prop where
  comp : ∀ c ∈ cs, IsComp E n c ∧ c.headD 0 < k
  has : ∀ x, x < n → (D x = true ↔ ∃ c ∈ cs, x ∈ c)
  all : ∀ x, x < k → x < n → D x = true
  heads : cs.Pairwise (fun c d => c.headD 0 < d.headD 0)
theorem Rc.start : Rc E n (fun _ => false) [] 0 := ⟨fun c hc => (by cases hc), fun x _ => ⟨fun h => (by cases h), fun ⟨c, hc, _⟩ => (by cases hc)⟩, fun x hx => (by omega), by simp⟩
theorem Rc.skip {D : Nat → Bool} {cs : List (List Nat)} {k : Nat} (h : Rc E n D cs k) (hk : D k = true) : Rc E n D cs (k + 1) := by
  refine ⟨fun c hc => ⟨(h.comp c hc).1, by have := (h.comp c hc).2; omega⟩, h.has, fun x hx hxn => ?_, h.heads⟩
  by_cases e : x = k
  · rw [e]; exact hk
  · exact h.all x (by omega) hxn
theorem Rc.new {M : Nat → Nat → Bool} (hM : ∀ u, u < n → ∀ x, M u x = true ↔ Rch E n u x) {D : Nat → Bool} {cs : List (List Nat)} {k : Nat} (h : Rc E n D cs k) (hkn : k < n) (hk : D k = false) : Rc E n (fun x => D x || (decide (x < n) && sameC M k x)) (cs ++ [lst (sameC M k) n]) (k + 1) := by
  have hC := isComp_lst hM hkn
  have hkk : sameC M k k = true := by unfold sameC; simp
  have hlow : ∀ x, x < k → sameC M k x = false := fun x hx => by
    cases hs : sameC M k x with
    | false => rfl
    | true =>
      exfalso
      have hxn : x < n := by omega
      obtain ⟨c, hc, hxc⟩ := (h.has x hxn).1 (h.all x hx hxn)
      have e : c = lst (sameC M k) n := (h.comp c hc).1.uniq hC hxc (mem_lst.2 ⟨hxn, hs⟩)
      have := (h.has k hkn).2 ⟨c, hc, by rw [e]; exact mem_lst.2 ⟨hkn, hkk⟩⟩
      rw [hk] at this
      cases this
  have hhead : (lst (sameC M k) n).headD 0 = k := by
    have h1 := hC.head
    have h2 := (mem_lst.1 h1).2
    have hge : ¬ (lst (sameC M k) n).headD 0 < k := fun c => by rw [hlow _ c] at h2; cases h2
    have hle : (lst (sameC M k) n).headD 0 ≤ k := by
      have hm : k ∈ lst (sameC M k) n := mem_lst.2 ⟨hkn, hkk⟩
      have hp := lst_pair (sameC M k) n
      generalize lst (sameC M k) n = l at hm hp
      cases l with
      | nil => cases hm
      | cons a l =>
        rcases List.mem_cons.1 hm with rfl | hm
        · exact Nat.le_refl _
        · exact Nat.le_of_lt ((List.pairwise_cons.1 hp).1 k hm)
    omega
  refine ⟨fun c hc => ?_, fun x hx => ?_, fun x hx hxn => ?_, ?_⟩
  · rcases List.mem_append.1 hc with hc | hc
    · exact ⟨(h.comp c hc).1, by have := (h.comp c hc).2; omega⟩
    · obtain rfl : c = lst (sameC M k) n := by simpa using hc
      exact ⟨hC, by rw [hhead]; omega⟩
  · rw [Bool.or_eq_true, Bool.and_eq_true, decide_eq_true_eq, h.has x hx]
    constructor
    · rintro (⟨c, hc, hxc⟩ | ⟨h1, h2⟩)
      · exact ⟨c, List.mem_append_left _ hc, hxc⟩
      · exact ⟨_, List.mem_append_right _ (by simp), mem_lst.2 ⟨h1, h2⟩⟩
    · rintro ⟨c, hc, hxc⟩
      rcases List.mem_append.1 hc with hc | hc
      · exact .inl ⟨c, hc, hxc⟩
      · obtain rfl : c = lst (sameC M k) n := by simpa using hc
        exact .inr (mem_lst.1 hxc)
  · by_cases e : x = k
    · subst e
      rw [hkk]
      simp [hxn]
    · rw [h.all x (by omega) hxn]
      rfl
  · rw [List.pairwise_append]
    refine ⟨h.heads, by simp, fun c hc d hd => ?_⟩
    obtain rfl : d = lst (sameC M k) n := by simpa using hd
    rw [hhead]
    exact (h.comp c hc).2
theorem Rc.done {D : Nat → Bool} {cs : List (List Nat)} (h : Rc E n D cs n) : IsComps E n cs := ⟨fun c hc => (h.comp c hc).1, fun v hv => (h.has v hv).1 (h.all v hv hv), h.heads⟩
end
end Go.Proofs.YtjgmkigfpjmlaaaDoor

/-
  The document's Components.
-/
namespace Go.Proofs.YtjgmkigfpjmlaaaDoor
set_option linter.unusedVariables false
set_option linter.unusedSimpArgs false
open Go.RowKit

theorem Tryd.infoBools : (Tryd.prog.info? 70).map (fun i => (i.zero, i.size, i.bytes)) = some (some (.slice none 0 0), 1, 24) := by kernel_rfl
def rowsB (n : Nat) (mks : Nat → Nat) (k : Nat) : List Value := (List.range k).map fun i => Value.slice (some ⟨mks i, 0, none⟩) n n
theorem rowsB_succ (n : Nat) (mks : Nat → Nat) (k a : Nat) : rowsB n (fun i => if i = k then a else mks i) (k + 1) = rowsB n mks k ++ [.slice (some ⟨a, 0, none⟩) n n] := by
  unfold rowsB
  rw [List.range_succ, List.map_append]
  congr 1
  · apply List.map_congr_left
    intro i hi
    have : i < k := List.mem_range.1 hi
    show Value.slice (some ⟨if i = k then a else mks i, 0, none⟩) n n = _
    rw [if_neg (by omega)]
  · simp
/-- What each of the first k nodes reaches, in rows of bools. -/
structure AllR (w : World) (H : Nat) (av : Value) (n k : Nat) (mks : Nat → Nat) (M : Nat → Nat → Bool) (E : Nat → Nat → Bool) : Prop where
  row : w.ownsRow H 70 1 av k (rowsB n mks k)
  each : ∀ i, i < k → LayB w (mks i) n (M i)
  mean : ∀ i, i < k → ∀ x, M i x = true ↔ Rch E n i x
theorem AllR.gro {P : Nat → Prop} {w w' : World} {H : Nat} {av : Value} {n k : Nat} {mks : Nat → Nat} {M : Nat → Nat → Bool} {E : Nat → Nat → Bool} (h : AllR w H av n k mks M E) (hg : Gro P w w') (h1 : ∀ g, av.ownBlock = some g → ¬ P g) (h2 : ∀ i, i < k → ¬ P (mks i)) : AllR w' H av n k mks M E :=
  ⟨own_gro h.row hg h1, fun i hi => (h.each i hi).gro hg (h2 i hi), h.mean⟩
theorem AllR.later {w w' : World} {H : Nat} {av : Value} {n k : Nat} {mks : Nat → Nat} {M : Nat → Nat → Bool} {E : Nat → Nat → Bool} (h : AllR w H av n k mks M E) (hb : Below w.heap.size w w') : AllR w' H av n k mks M E := h.gro (Gro.of_below (P := fun _ => False) hb) (fun _ _ x => x) (fun _ _ x => x)
theorem AllR.at {w : World} {H : Nat} {av : Value} {n k : Nat} {mks : Nat → Nat} {M : Nat → Nat → Bool} {E : Nat → Nat → Bool} (h : AllR w H av n k mks M E) : ∃ a c, av = .slice a k c ∧ ∀ j, j < k → ∃ g, a = some ⟨g, 0, none⟩ ∧ w.cell? ⟨g, j, none⟩ = some (.slice (some ⟨mks j, 0, none⟩) n n) := by
  rcases h.row.2 with ⟨hv, hn⟩ | ⟨g, cap, cur, hv, hB, _⟩
  · exact ⟨none, 0, by rw [hv, hn], fun j hj => by omega⟩
  · refine ⟨_, cap, hv, fun j hj => ⟨g, rfl, ?_⟩⟩
    have q1 : (rowsB n mks k)[j]? = some (.slice (some ⟨mks j, 0, none⟩) n n) := by simp [rowsB, hj]
    have := h.row.cells (g := g) (by rw [hv]; rfl) j _ q1
    rwa [Addr.add_lit, Nat.zero_add] at this
theorem AllR.next {w w4 : World} {H : Nat} {av v4 : Value} {n k a : Nat} {mks : Nat → Nat} {M : Nat → Nat → Bool} {R : Nat → Bool} {E : Nat → Nat → Bool} (h : AllR w H av n k mks M E) (hR : LayB w a n R) (hm : ∀ x, R x = true ↔ Rch E n k x) (hg : Gro (fun g => av.ownBlock = some g) w w4) (hrow : w4.ownsRow H 70 1 v4 (k + 1) (rowsB n mks k ++ [.slice (some ⟨a, 0, none⟩) n n])) :
    AllR w4 H v4 n (k + 1) (fun i => if i = k then a else mks i) (fun i => if i = k then R else M i) E := by
  have off : ∀ {b : Nat} {F : Nat → Bool}, LayB w b n F → LayB w4 b n F := fun {b F} hl => by
    obtain ⟨c, hc, r⟩ := hl
    exact ⟨c, hg.at hc (fun e => by obtain ⟨_, c', hc'⟩ := own_tag h.row e; exact tags hc hc' (by decide) rfl), r⟩
  refine ⟨by rw [rowsB_succ]; exact hrow, fun i hi => ?_, fun i hi x => ?_⟩
  · by_cases e : i = k
    · simp only [if_pos e]
      exact off hR
    · simp only [if_neg e]
      exact off (h.each i (by omega))
  · by_cases e : i = k
    · simp only [if_pos e]
      rw [e]
      exact hm x
    · simp only [if_neg e]
      exact h.mean i (by omega) x
theorem layB_congr {w : World} {g n : Nat} {F F' : Nat → Bool} (h : LayB w g n F) (he : ∀ x, x < n → F x = F' x) : LayB w g n F' := by
  obtain ⟨c, h1, h2, h3⟩ := h
  exact ⟨c, h1, h2, fun j hj => by rw [h3 j hj, he j hj]⟩
theorem done_yes (D : Nat → Bool) (M : Nat → Nat → Bool) (k m x : Nat) (h : sameC M k m = true) : (x == m || (D x || (decide (x < m) && sameC M k x))) = (D x || (decide (x < m + 1) && sameC M k x)) := by
  by_cases e : x = m
  · subst e; simp [h]
  · have e1 : (x == m) = false := by simpa using e
    rw [e1, Bool.false_or]
    congr 2
    rw [decide_eq_decide]
    omega
theorem done_no (D : Nat → Bool) (M : Nat → Nat → Bool) (k m x : Nat) (h : sameC M k m = false) : (D x || (decide (x < m) && sameC M k x)) = (D x || (decide (x < m + 1) && sameC M k x)) := by
  by_cases e : x = m
  · subst e; simp [h]
  · congr 2
    rw [decide_eq_decide]
    omega
theorem Rc.lens {E : Nat → Nat → Bool} {n k : Nat} {D : Nat → Bool} {cs : List (List Nat)} (h : Rc E n D cs k) : cs.length ≤ n := by
  have h1 : (cs.map fun c => c.headD 0).Nodup := by
    rw [List.nodup_iff_pairwise_ne, List.pairwise_map]
    exact h.heads.imp (fun {c d} hcd e => by omega)
  have := len_of_sub (n := n) h1 (fun v hv => by
    obtain ⟨c, hc, rfl⟩ := List.mem_map.1 hv
    obtain ⟨_, u, _, h2⟩ := (h.comp c hc).1
    exact ((h2 _).1 (h.comp c hc).1.head).1)
  simpa using this
theorem fnd_gro {P : Nat → Prop} {w w' : World} {H : Nat} {v : Value} {fs : List (List Nat × Value)} (h : Fnd w H v fs) (hg : Gro P w w') (hP : ∀ g c t, w.heap[g]? = some (.cells c t) → (t = 3 ∨ t = 29) → ¬ P g) : Fnd w' H v fs := by
  refine ⟨own_gro h.1 hg (fun g e => by obtain ⟨_, c, hc⟩ := own_tag h.1 e; exact hP g c _ hc (.inr rfl)), fun p hp => ?_⟩
  rcases h.2 p hp with q | ⟨g, off, cap, cur, q1, q2, q3, q4⟩
  · exact .inl q
  · exact .inr ⟨g, off, cap, cur, q1, q2, hg.at q3 (hP g cur 3 q3 (.inl rfl)), q4⟩

set_option maxHeartbeats 16000000 in
set_option maxRecDepth 100000 in
theorem rcomps_is (b n : Nat) (v : Value) (rw' : Nat → Nat) (L : Nat → Nat → Nat) (labels : Int) (w : World) (h : RefG w b n v rw' L) (hn : n < 60) :
    Calls Tryd.prog 12 #[.pointer (some ⟨b, 0, none⟩), .int .i64 labels] w fun e w' => (∃ v fs, e = .returned v ∧ Fnd w' w.heap.size v fs ∧ IsComps (edge L labels) n (fs.map Prod.fst)) ∧ Below w.heap.size w w' := by
  obtain ⟨iB, hiB, hzB⟩ := Option.map_eq_some_iff.1 Tryd.infoBools
  simp only [Prod.mk.injEq] at hzB
  obtain ⟨zB0, zB1, zB2⟩ := hzB
  obtain ⟨iI, hiI, hzI⟩ := Option.map_eq_some_iff.1 (show (Tryd.prog.info? 29).map (fun i => (i.zero, i.size, i.bytes)) = some (some (.slice none 0 0), 1, 24) by kernel_rfl)
  simp only [Prod.mk.injEq] at hzI
  obtain ⟨zI0, zI1, zI2⟩ := hzI
  have HB := hid (And.intro hiB (And.intro zB0 (And.intro zB1 zB2)))
  have HI := hid (And.intro hiI (And.intro zI0 (And.intro zI1 zI2)))
  clear hiB zB0 zB1 zB2 hiI zI0 zI1 zI2
  have hmk := run_make_row' (P := Tryd.prog) 70 4 (.bool false) 1 Tryd.underlying70 Tryd.info4b rfl .i64 .i64 n (by omega) (by omega)
  rw [made_bl] at hmk
  have HMK := hid hmk
  have R := hid h
  have hni : (n : Int) < 60 := by omega
  have hn0 : (0 : Int) ≤ n := by omega
  obtain ⟨ao, cap, hv, -⟩ := h.form
  have c0 := h.c0
  rw [hv] at c0
  have hbl : b < w.heap.size := World.block_lt_of_cell? _ _ c0
  have C0 : Hid (∀ wr, Below w.heap.size w wr → wr.cell? ⟨b, 0, none⟩ = some (.slice ao n cap)) := fun wr hb => (hb.cell (p := ⟨b, 0, none⟩) hbl).trans c0
  clear h hv hmk
  go_enter Tryd.func12, Tryd.ntmps12
  go_wp2_with fail
  clear c0
  go_loopg [5, 6, 19] n (fun g av _ i wr => ∃ (k : Nat) (mks : Nat → Nat) (M : Nat → Nat → Bool), k ≤ n ∧ n - k ≤ g ∧ i = .int .i64 k ∧ Aside (AllR wr w.heap.size av n k mks M (edge L labels)) ∧ Aside (Below w.heap.size w wr))
  case atStart => exact ⟨0, fun _ => 0, fun _ _ => false, Nat.zero_le _, by omega, rfl, ⟨World.ownsRow_nil _ _ _ _, fun i hi => by omega, fun i hi => by omega⟩, Below.refl _ _⟩
  case round =>
    obtain ⟨k, mks, M, hk, hg, rfl, AX, BX⟩ := hrel
    by_cases hlt : k < n
    · have hlti : (k : Int) < n := by omega
      obtain ⟨aa, ac, hav, _⟩ := AX.out.at
      subst hav
      go_wp2_with fail
      go_at_call 31
      refine (reaches_is b n v rw' L labels k wr (R.out.later BX.out) hlt hn).mono ?_
      rintro e w1 ⟨⟨mk, Rk, rfl, hL, hm⟩, b1⟩
      have A1 := hid (AX.out.later b1)
      have B1 := hid (BX.out.trans (b1.mono BX.out.size))
      have L1 := hid hL
      have M1 := hid hm
      clear hL hm b1 AX BX
      have NA : Hid (∀ j u, ([.slice (some ⟨mk, 0, none⟩) n n] : List Value)[j]? = some u → (w1.alloc (.cells #[.slice (some ⟨mk, 0, none⟩) n n] 70)).cell? ((⟨w1.heap.size, 0, none⟩ : Addr).add j) = some u) := World.news_of_block (cs := #[.slice (some ⟨mk, 0, none⟩) n n]) (t := 70) (fr := (0, 0)) (heap_alloc_new w1 _)
      have XA : Hid (∀ u ∈ ([.slice (some ⟨mk, 0, none⟩) n n] : List Value), u.oneCell' = true) := fun u hu => by
        obtain rfl : u = .slice (some ⟨mk, 0, none⟩) n n := by simpa using hu
        rfl
      have A2 := hid (A1.out.later (below_box w1 (.cells #[.slice (some ⟨mk, 0, none⟩) n n] 70)))
      have L2 := hid (L1.out.later (below_box w1 (.cells #[.slice (some ⟨mk, 0, none⟩) n n] 70)))
      have B2 : Hid (Below w.heap.size w (w1.alloc (.cells #[.slice (some ⟨mk, 0, none⟩) n n] 70))) := B1.out.trans ((below_box w1 _).mono B1.out.size)
      have Z2 : Hid (w.heap.size ≤ (w1.alloc (.cells #[.slice (some ⟨mk, 0, none⟩) n n] 70)).heap.size) := B2.out.size
      clear A1 B1 L1
      go_wp2_with (at_builtin; refine wpList_append_lies _ rfl _ _ 69 rfl w.heap.size 70 iB _ 1 24 Tryd.underlying69 HB.out.1 HB.out.2.1 HB.out.2.2.1 HB.out.2.2.2 rfl (by decide) (.slice aa k ac) k (rowsB n mks k) rfl A2.out.row ⟨w1.heap.size, 0, none⟩ 1 1 [.slice (some ⟨mk, 0, none⟩) n n] rfl rfl NA.out XA.out (by decide) (by unfold maxLen; omega) (by omega) Z2.out (w1.heap.size + 1) (by simp) ?_; intro g4 cap4 w4 hown4 hgrow4 hat4 hglt4; have G4 := hid (gro_of_grown hgrow4); have O4 := hid hown4; clear hown4 hgrow4 hat4 hglt4)
      have A4 := hid (A2.out.next L2.out M1.out G4.out O4.out)
      have B4 : Hid (Below w.heap.size w w4) := B2.out.trans (G4.out.below w.heap.size (fun k hk => (own_tag A2.out.row hk).1) B2.out.size)
      clear A2 L2 M1 G4 O4 B2 Z2
      go_roundg (n - (k + 1))
      · exact ⟨k + 1, _, _, by omega, by omega, by go_num, A4.out, B4.out⟩
      · omega
    · have hlti : ¬ (k : Int) < n := by omega
      obtain rfl : n = k := by omega
      obtain ⟨aa, ac, hav, _⟩ := AX.out.at
      subst hav
      have c0 := C0.out wr BX.out
      have hmk := HMK.out
      have hbw : b < wr.heap.size := World.block_lt_of_cell? _ _ c0
      go_wp2_with fail
      clear c0 hmk hbw
      have BD : Hid (Below wr.heap.size wr (wr.alloc (.cells (Array.replicate n (.bool false)) 4))) := below_box wr _
      have L0 : Hid (LayB (wr.alloc (.cells (Array.replicate n (.bool false)) 4)) wr.heap.size n (fun _ => false)) := ⟨_, heap_alloc_new wr _, by simp, fun j hj => by simp [hj]⟩
      have A0 := hid (AX.out.later BD.out)
      have B0 : Hid (Below w.heap.size w (wr.alloc (.cells (Array.replicate n (.bool false)) 4))) := BX.out.trans (BD.out.mono BX.out.size)
      have DK : Hid (w.heap.size ≤ wr.heap.size) := BX.out.size
      have DN : Hid (∀ i, i < n → mks i ≠ wr.heap.size) := fun i hi e => by
        obtain ⟨c, hc, _⟩ := AX.out.each i hi
        have := blt hc
        omega
      clear AX BX
      have c0 := C0.out _ B0.out
      generalize wr.alloc (.cells (Array.replicate n (.bool false)) 4) = W0 at *
      generalize wr.heap.size = dk at *
      clear c0 BD
      have aat := A0.out.at
      obtain ⟨aa', ac', eav, hat⟩ := aat
      injection eav with e1 _ e3
      subst e1
      subst e3
      clear hat
      go_loopg [8, 9, 10, 11, 41] n (fun g ov _ _ _ i wr => ∃ (k : Nat) (D : Nat → Bool) (fs : List (List Nat × Value)), k ≤ n ∧ n - k ≤ g ∧ i = .int .i64 k ∧ Aside (LayB wr dk n D) ∧ Aside (AllR wr w.heap.size (.slice aa n ac) n n mks M (edge L labels)) ∧ Aside (Fnd wr w.heap.size ov fs) ∧ Aside (Rc (edge L labels) n D (fs.map Prod.fst) k) ∧ Aside (Below w.heap.size w wr))
      case atStart => exact ⟨0, _, [], Nat.zero_le _, by omega, rfl, L0.out, A0.out, ⟨World.ownsRow_nil _ _ _ _, fun p hp => (by cases hp)⟩, Rc.start, B0.out⟩
      case round =>
        clear L0 A0 B0
        obtain ⟨k, D, fs, hk, hg, rfl, LX, AX, FX, RX, BX⟩ := hrel
        by_cases hlt : k < n
        · have hlti : (k : Int) < n := by omega
          have hk0 : (0 : Int) ≤ k := by omega
          obtain ⟨cD, fD⟩ := LX.out.cell k hlt
          obtain ⟨oa, oc, hov, _⟩ := FX.out.at
          subst hov
          cases hD : D k with
          | true =>
            rw [hD] at cD
            have RN := hid (RX.out.skip hD)
            clear hD
            go_wp2_with fail
            go_roundg (n - (k + 1))
            · exact ⟨k + 1, D, fs, by omega, by omega, by go_num, LX.out, AX.out, FX.out, RN.out, BX.out⟩
            · omega
          | false =>
            rw [hD] at cD
            have RN := hid (RX.out.new AX.out.mean hlt hD)
            have c0 := C0.out wr BX.out
            clear hD RX
            rename World => wo
            have DKT : Hid (∃ c, wo.heap[dk]? = some (.cells c 4)) := by obtain ⟨c, hc, _⟩ := LX.out; exact ⟨c, hc⟩
            have DKL : Hid (dk < wo.heap.size) := by obtain ⟨c, hc, _⟩ := LX.out; exact blt hc
            have hwo := BX.out.size
            go_wp2_with fail
            go_loopg [10, 11, 53] n (fun g2 lv _ i wr => ∃ m : Nat, m ≤ n ∧ n - m ≤ g2 ∧ i = .int .i64 m ∧ Aside (Ints wo.heap.size wr lv (lst (sameC M k) m)) ∧ Aside (LayB wr dk n (fun x => D x || (decide (x < m) && sameC M k x))) ∧ Aside (Gro (fun g => g = dk ∨ wo.heap.size ≤ g) wo wr))
            case atStart => exact ⟨0, Nat.zero_le _, by omega, rfl, World.ownsRow_nil _ _ _ _, layB_congr LX.out (fun x hx => by simp), Gro.refl _ _⟩
            case round =>
              clear LX cD fD c0
              obtain ⟨m, hm, hg2, rfl, IX, LI, GX⟩ := hrel
              have AI : Hid (AllR wr w.heap.size (.slice aa n ac) n n mks M (edge L labels)) := AX.out.gro GX.out (fun g e => by
                obtain ⟨_, c, hc⟩ := own_tag AX.out.row e
                rintro (rfl | h9)
                · obtain ⟨c2, hc2⟩ := DKT.out
                  exact tags hc hc2 (by decide) rfl
                · have := blt hc; omega) (fun i hi => by
                obtain ⟨c, hc, _⟩ := AX.out.each i hi
                rintro (h8 | h9)
                · exact DN.out i hi h8
                · have := blt hc; omega)
              obtain ⟨la, lc, hlv⟩ := IX.out.form
              subst hlv
              by_cases hml : m < n
              · have hmli : (m : Int) < n := by omega
                have hm0 : (0 : Int) ≤ m := by omega
                obtain ⟨aa2, ac2, eav, hat⟩ := AI.out.at
                injection eav with e1 _ e3
                subst e1
                subst e3
                obtain ⟨ga, rfl, ck1⟩ := hat k hlt
                obtain ⟨ga2, ega, cm1⟩ := hat m hml
                injection ega with ega
                injection ega with ega
                subst ega
                obtain ⟨ckm, _⟩ := (AI.out.each k hlt).cell m hml
                obtain ⟨cmk, _⟩ := (AI.out.each m hml).cell k hlt
                have hll := lst_le (sameC M k) m
                have hlli : ((lst (sameC M k) m).length : Int) ≤ 60 := by omega
                obtain ⟨cdm, fdm⟩ := LI.out.cell m hml
                clear hat AI
                by_cases hmk : m = k
                · subst hmk
                  have hsm : sameC M m m = true := by unfold sameC; simp
                  have hee : ((m : Int) == (m : Int)) = true := by simp
                  clear ckm cmk ck1 cm1
                  have IA : Hid (Ints wo.heap.size (wr.alloc (.cells #[.int .i64 (m : Int)] 3)) (.slice la (lst (sameC M m) m).length lc) (lst (sameC M m) m)) := IX.out.later (below_box wr _)
                  have CA : Hid ((wr.alloc (.cells #[.int .i64 (m : Int)] 3)).cell? ⟨wr.heap.size, 0, none⟩ = some (.int .i64 m)) := new_cells wr #[.int .i64 (m : Int)] 3 0
                  have LA := hid (LI.out.later (below_box wr (.cells #[.int .i64 (m : Int)] 3)))
                  have GA : Hid (Gro (fun g => g = dk ∨ wo.heap.size ≤ g) wo (wr.alloc (.cells #[.int .i64 (m : Int)] 3))) := GX.out.trans (Gro.of_below (below_box wr _))
                  have ZA : Hid (wo.heap.size ≤ (wr.alloc (.cells #[.int .i64 (m : Int)] 3)).heap.size) := GA.out.size
                  clear IX LI GX
                  go_wp2_with (at_builtin; refine wpList_append_ints _ rfl _ _ rfl wo.heap.size ZA.out _ (lst (sameC M m) m) rfl IA.out wr.heap.size m 1 rfl CA.out (by omega) ?_; intro gb cap' w6 o6 g6; have O6 := hid o6; have L6 := hid (LA.out.gro g6 (by have := DKL.out; omega)); have G6 : Hid (Gro (fun g => g = dk ∨ wo.heap.size ≤ g) wo w6) := GA.out.trans ⟨g6.os, g6.tape, g6.output, g6.size, fun x hx hn => g6.block x hx (fun c => hn (.inr c))⟩; obtain ⟨cd6, fd6⟩ := L6.out.cell m hml; clear o6 g6)
                  have L7 : Hid (LayB (w6.setCell ⟨dk, m, none⟩ (.bool true)) dk n (fun x => D x || (decide (x < m + 1) && sameC M m x))) := layB_congr (L6.out.put m hml) (fun x hx => done_yes D M m m x hsm)
                  have O7 : Hid (Ints wo.heap.size (w6.setCell ⟨dk, m, none⟩ (.bool true)) (.slice (some ⟨gb, 0, none⟩) ((lst (sameC M m) m).length + 1) cap') (lst (sameC M m) (m + 1))) := by
                    rw [lst_one, if_pos hsm]
                    have := own_gro O6.out (gro_set w6 ⟨dk, m, none⟩ (.bool true)) (fun g hg e => by
                      have h1 := (own_tag O6.out hg).1
                      have h2 := DKL.out
                      have e' : g = dk := e
                      omega)
                    exact this
                  have G7 : Hid (Gro (fun g => g = dk ∨ wo.heap.size ≤ g) wo (w6.setCell ⟨dk, m, none⟩ (.bool true))) := G6.out.trans ⟨rfl, rfl, rfl, by simp, fun x hx hn => Below.heap_setCell w6 ⟨dk, m, none⟩ (.bool true) x (fun e => hn (.inl e))⟩
                  go_roundg (n - (m + 1))
                  · exact ⟨m + 1, by omega, by omega, by go_num, O7.out, L7.out, G7.out⟩
                  · omega
                · have hne : ¬ (m : Int) = k := by omega
                  have hneb : ((m : Int) == (k : Int)) = false := by simpa using hne
                  cases h1 : M k m with
                  | false =>
                  rw [h1] at ckm
                  have hsm : sameC M k m = false := by unfold sameC; rw [h1]; simp [hmk]
                  clear h1 cmk cm1
                  have L7 : Hid (LayB wr dk n (fun x => D x || (decide (x < m + 1) && sameC M k x))) := layB_congr LI.out (fun x hx => done_no D M k m x hsm)
                  have O7 : Hid (Ints wo.heap.size wr (.slice la (lst (sameC M k) m).length lc) (lst (sameC M k) (m + 1))) := by
                    rw [lst_one, if_neg (by rw [hsm]; decide)]
                    exact IX.out
                  clear IX LI
                  go_wp2_with fail
                  go_roundg (n - (m + 1))
                  · exact ⟨m + 1, by omega, by omega, by go_num, O7.out, L7.out, GX.out⟩
                  · omega
                  | true =>
                  rw [h1] at ckm
                  cases h2 : M m k with
                  | false =>
                  rw [h2] at cmk
                  have hsm : sameC M k m = false := by unfold sameC; rw [h1, h2]; simp [hmk]
                  clear h1 h2
                  have L7 : Hid (LayB wr dk n (fun x => D x || (decide (x < m + 1) && sameC M k x))) := layB_congr LI.out (fun x hx => done_no D M k m x hsm)
                  have O7 : Hid (Ints wo.heap.size wr (.slice la (lst (sameC M k) m).length lc) (lst (sameC M k) (m + 1))) := by
                    rw [lst_one, if_neg (by rw [hsm]; decide)]
                    exact IX.out
                  clear IX LI
                  go_wp2_with fail
                  go_roundg (n - (m + 1))
                  · exact ⟨m + 1, by omega, by omega, by go_num, O7.out, L7.out, GX.out⟩
                  · omega
                  | true =>
                  rw [h2] at cmk
                  have hsm : sameC M k m = true := by unfold sameC; rw [h1, h2]; simp
                  clear h1 h2
                  have IA : Hid (Ints wo.heap.size (wr.alloc (.cells #[.int .i64 (m : Int)] 3)) (.slice la (lst (sameC M k) m).length lc) (lst (sameC M k) m)) := IX.out.later (below_box wr _)
                  have CA : Hid ((wr.alloc (.cells #[.int .i64 (m : Int)] 3)).cell? ⟨wr.heap.size, 0, none⟩ = some (.int .i64 m)) := new_cells wr #[.int .i64 (m : Int)] 3 0
                  have LA := hid (LI.out.later (below_box wr (.cells #[.int .i64 (m : Int)] 3)))
                  have GA : Hid (Gro (fun g => g = dk ∨ wo.heap.size ≤ g) wo (wr.alloc (.cells #[.int .i64 (m : Int)] 3))) := GX.out.trans (Gro.of_below (below_box wr _))
                  have ZA : Hid (wo.heap.size ≤ (wr.alloc (.cells #[.int .i64 (m : Int)] 3)).heap.size) := GA.out.size
                  clear IX LI GX
                  go_wp2_with (at_builtin; refine wpList_append_ints _ rfl _ _ rfl wo.heap.size ZA.out _ (lst (sameC M k) m) rfl IA.out wr.heap.size m 1 rfl CA.out (by omega) ?_; intro gb cap' w6 o6 g6; have O6 := hid o6; have L6 := hid (LA.out.gro g6 (by have := DKL.out; omega)); have G6 : Hid (Gro (fun g => g = dk ∨ wo.heap.size ≤ g) wo w6) := GA.out.trans ⟨g6.os, g6.tape, g6.output, g6.size, fun x hx hn => g6.block x hx (fun c => hn (.inr c))⟩; obtain ⟨cd6, fd6⟩ := L6.out.cell m hml; clear o6 g6)
                  have L7 : Hid (LayB (w6.setCell ⟨dk, m, none⟩ (.bool true)) dk n (fun x => D x || (decide (x < m + 1) && sameC M k x))) := layB_congr (L6.out.put m hml) (fun x hx => done_yes D M k m x hsm)
                  have O7 : Hid (Ints wo.heap.size (w6.setCell ⟨dk, m, none⟩ (.bool true)) (.slice (some ⟨gb, 0, none⟩) ((lst (sameC M k) m).length + 1) cap') (lst (sameC M k) (m + 1))) := by
                    rw [lst_one, if_pos hsm]
                    have := own_gro O6.out (gro_set w6 ⟨dk, m, none⟩ (.bool true)) (fun g hg e => by
                      have h1 := (own_tag O6.out hg).1
                      have h2 := DKL.out
                      have e' : g = dk := e
                      omega)
                    exact this
                  have G7 : Hid (Gro (fun g => g = dk ∨ wo.heap.size ≤ g) wo (w6.setCell ⟨dk, m, none⟩ (.bool true))) := G6.out.trans ⟨rfl, rfl, rfl, by simp, fun x hx hn => Below.heap_setCell w6 ⟨dk, m, none⟩ (.bool true) x (fun e => hn (.inl e))⟩
                  go_roundg (n - (m + 1))
                  · exact ⟨m + 1, by omega, by omega, by go_num, O7.out, L7.out, G7.out⟩
                  · omega
              · have hmli : ¬ (m : Int) < n := by omega
                have hmn : m = n := by omega
                subst hmn
                have FI : Hid (Fnd wr w.heap.size (.slice oa fs.length oc) fs) := fnd_gro FX.out GX.out (fun g c t hc ht => by
                  rintro (rfl | h9)
                  · obtain ⟨c2, hc2⟩ := DKT.out
                    exact tags hc hc2 (by rcases ht with rfl | rfl <;> decide) rfl
                  · have := blt hc; omega)
                have BI : Hid (Below w.heap.size w wr) := BX.out.trans (GX.out.below w.heap.size (fun g hg => by have := DK.out; rcases hg with rfl | h9 <;> omega) BX.out.size)
                have hfl := RN.out.comp
                have hfl2 : fs.length ≤ 60 := by
                  have := RN.out.lens
                  rw [List.length_append, List.length_map] at this
                  omega
                clear hfl
                have PI : Hid (Part (fun g => w.heap.size ≤ g) wr (.slice la (lst (sameC M k) m).length lc) (natI (lst (sameC M k) m))) := IX.out.partOff (fun g hg => by omega)
                have LJ : Hid (LayB wr dk m (fun x => D x || (decide (x < m) && sameC M k x))) := LI.out
                clear IX LI GX FX BX AX
                have FA := hid (FI.out.later (below_box wr (.cells #[.slice la (lst (sameC M k) m).length lc] 29)))
                have PA := hid (PI.out.gro (Gro.of_below (P := fun _ => False) (below_box wr (.cells #[.slice la (lst (sameC M k) m).length lc] 29))) (fun _ _ x => x))
                have LA := hid (LJ.out.later (below_box wr (.cells #[.slice la (lst (sameC M k) m).length lc] 29)))
                have AA := hid (AI.out.later (below_box wr (.cells #[.slice la (lst (sameC M k) m).length lc] 29)))
                have BA : Hid (Below w.heap.size w (wr.alloc (.cells #[.slice la (lst (sameC M k) m).length lc] 29))) := BI.out.trans ((below_box wr _).mono BI.out.size)
                have ZA : Hid (w.heap.size ≤ (wr.alloc (.cells #[.slice la (lst (sameC M k) m).length lc] 29)).heap.size) := BA.out.size
                have NA : Hid (∀ j u, ([.slice la (lst (sameC M k) m).length lc] : List Value)[j]? = some u → (wr.alloc (.cells #[.slice la (lst (sameC M k) m).length lc] 29)).cell? ((⟨wr.heap.size, 0, none⟩ : Addr).add j) = some u) := World.news_of_block (cs := #[.slice la (lst (sameC M k) m).length lc]) (t := 29) (fr := (0, 0)) (heap_alloc_new wr _)
                have XA : Hid (∀ u ∈ ([.slice la (lst (sameC M k) m).length lc] : List Value), u.oneCell' = true) := fun u hu => by
                  obtain rfl : u = .slice la (lst (sameC M k) m).length lc := by simpa using hu
                  rfl
                clear FI PI LJ AI BI
                go_wp2_with (at_builtin; refine wpList_append_lies _ rfl _ _ 28 rfl w.heap.size 29 iI _ 1 24 Tryd.underlying28 HI.out.1 HI.out.2.1 HI.out.2.2.1 HI.out.2.2.2 rfl (by decide) (.slice oa fs.length oc) fs.length (fs.map Prod.snd) rfl FA.out.1 ⟨wr.heap.size, 0, none⟩ 1 1 [.slice la (lst (sameC M k) m).length lc] rfl rfl NA.out XA.out (by decide) (by unfold maxLen; omega) (by omega) ZA.out (wr.heap.size + 1) (by simp) ?_; intro g8 cap8 w8 hown8 hgrow8 hat8 hglt8; have G8 := hid (gro_of_grown hgrow8); have O8 := hid hown8; clear hown8 hgrow8 hat8 hglt8)
                have NB : Hid (∀ g c t, (wr.alloc (.cells #[.slice la (lst (sameC M k) m).length lc] 29)).heap[g]? = some (.cells c t) → t ≠ 29 → ¬ (Value.slice oa fs.length oc).ownBlock = some g) := fun g c t hc ht e => by
                  obtain ⟨_, c2, hc2⟩ := own_tag FA.out.1 e
                  exact tags hc hc2 ht rfl
                have L8 : Hid (LayB w8 dk m (fun x => D x || (decide (x < m) && sameC M k x))) := by
                  obtain ⟨c, hc, r⟩ := LA.out
                  exact ⟨c, G8.out.at hc (NB.out _ _ _ hc (by decide)), r⟩
                have A8 : Hid (AllR w8 w.heap.size (.slice aa m ac) m m mks M (edge L labels)) := AA.out.gro G8.out (fun g e => by obtain ⟨_, c, hc⟩ := own_tag AA.out.row e; exact NB.out _ _ _ hc (by decide)) (fun i hi => by obtain ⟨c, hc, _⟩ := AA.out.each i hi; exact NB.out _ _ _ hc (by decide))
                have F8 : Hid (Fnd w8 w.heap.size (.slice (some ⟨g8, 0, none⟩) (fs.length + 1) cap8) (fs ++ [(lst (sameC M k) m, .slice la (lst (sameC M k) m).length lc)])) := by
                  have pk : ∀ {u : Value} {l : List Int}, Part (fun g => w.heap.size ≤ g) (wr.alloc (.cells #[.slice la (lst (sameC M k) m).length lc] 29)) u l → Part (fun g => w.heap.size ≤ g) w8 u l := fun {u l} hp => by
                    rcases hp with q | ⟨g, off, cap, cur, q1, q2, q3, q4⟩
                    · exact .inl q
                    · exact .inr ⟨g, off, cap, cur, q1, q2, G8.out.at q3 (NB.out _ _ _ q3 (by decide)), q4⟩
                  refine ⟨?_, fun p hp => ?_⟩
                  · rw [List.length_append, List.length_singleton, List.map_append]
                    exact O8.out
                  · rcases List.mem_append.1 hp with hp | hp
                    · exact pk (FA.out.2 p hp)
                    · obtain rfl : p = (lst (sameC M k) m, .slice la (lst (sameC M k) m).length lc) := by simpa using hp
                      exact pk PA.out
                have B8 : Hid (Below w.heap.size w w8) := BA.out.trans (G8.out.below w.heap.size (fun g hg => (own_tag FA.out.1 hg).1) BA.out.size)
                have R8 : Hid (Rc (edge L labels) m (fun x => D x || (decide (x < m) && sameC M k x)) ((fs ++ [(lst (sameC M k) m, Value.slice la (lst (sameC M k) m).length lc)]).map Prod.fst) (k + 1)) := by
                  rw [List.map_append]
                  exact RN.out
                clear FA PA LA AA BA ZA NA XA G8 O8 NB RN
                go_roundg (m - (k + 1))
                · exact ⟨k + 1, _, _, by omega, by omega, by go_num, L8.out, A8.out, F8.out, R8.out, B8.out⟩
                · omega
        · have hlti : ¬ (k : Int) < n := by omega
          obtain ⟨oa, oc, hov, _⟩ := FX.out.at
          subst hov
          have IC : Hid (IsComps (edge L labels) n (fs.map Prod.fst)) := by
            have := RX.out
            rw [show k = n by omega] at this
            exact this.done
          go_wp2_with fail
          go_ret
          first | exact ⟨⟨_, rfl, fs, FX.out, IC.out⟩, BX.out⟩ | exact ⟨⟨_, fs, rfl, FX.out, IC.out⟩, BX.out⟩ | exact ⟨⟨_, fs, FX.out, IC.out, rfl⟩, BX.out⟩
end Go.Proofs.YtjgmkigfpjmlaaaDoor
