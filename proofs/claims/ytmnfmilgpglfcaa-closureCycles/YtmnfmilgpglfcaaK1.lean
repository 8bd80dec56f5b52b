/-
  What has grown beside some blocks; a slice of numbers in a block; a row of bools.
-/
import Derived.Test.YtmnfmilgpglfcaaR1
import Derived.Test.YtmnfmilgpglfcaaB14
import Derived.ArgAppend
import Derived.Lib.Walk
import Derived.Deep.AppendLies
namespace Go.Proofs.Ytmnfmilgpglfcaa
set_option linter.unusedVariables false
set_option linter.unusedSimpArgs false
open Go.RowKit

/-- w' is w but for blocks of P and new ones. -/
structure Gro (P : Nat → Prop) (w w' : World) : Prop where
  os : w'.os = w.os
  tape : w'.tape = w.tape
  output : w'.output = w.output
  size : w.heap.size ≤ w'.heap.size
  block : ∀ k, k < w.heap.size → ¬ P k → w'.heap[k]? = w.heap[k]?
theorem Gro.refl (P : Nat → Prop) (w : World) : Gro P w w := ⟨rfl, rfl, rfl, Nat.le_refl _, fun _ _ _ => rfl⟩
theorem Gro.trans {P : Nat → Prop} {w w1 w2 : World} (h : Gro P w w1) (h2 : Gro P w1 w2) : Gro P w w2 :=
  ⟨h2.os.trans h.os, h2.tape.trans h.tape, h2.output.trans h.output, Nat.le_trans h.size h2.size, fun k hk hn => (h2.block k (Nat.lt_of_lt_of_le hk h.size) hn).trans (h.block k hk hn)⟩
theorem Gro.at {P : Nat → Prop} {w w' : World} (h : Gro P w w') {x : Nat} {cs : Array Value} {t : TypeId} {fr : Nat × Nat} (hx : w.heap[x]? = some (.cells cs t fr)) (hn : ¬ P x) : w'.heap[x]? = some (.cells cs t fr) :=
  (h.block x (blt hx) hn).trans hx
theorem Gro.below {P : Nat → Prop} {w w' : World} (h : Gro P w w') (H : Nat) (hH : ∀ k, P k → H ≤ k) (hs : H ≤ w.heap.size) : Below H w w' :=
  ⟨h.os, h.tape, h.output, h.size, fun k hk => h.block k (by omega) (fun hp => by have := hH k hp; omega)⟩
theorem Gro.of_below {P : Nat → Prop} {w w' : World} (h : Below w.heap.size w w') : Gro P w w' := ⟨h.os, h.tape, h.output, h.size, fun k hk _ => h.block k hk⟩
/-- A slice of numbers, not from its block's beginning on, in a block of P. -/
def Part (P : Nat → Prop) (w : World) (v : Value) (l : List Int) : Prop :=
  (v = .slice none 0 0 ∧ l = []) ∨ ∃ g off cap cur, v = .slice (some ⟨g, off, none⟩) l.length cap ∧ P g ∧ w.heap[g]? = some (.cells cur 3) ∧ l.length ≤ cap ∧ cap ≤ maxLen ∧ off + cap ≤ cur.size ∧ ∀ j, j < l.length → cur[off + j]? = some (.int .i64 (l.getD j 0))
theorem Part.gro {P Q : Nat → Prop} {w w' : World} {v : Value} {l : List Int} (h : Part P w v l) (hg : Gro Q w w') (hn : ∀ k, P k → ¬ Q k) : Part P w' v l := by
  rcases h with h | ⟨g, off, cap, cur, h1, h2, h3, h4⟩
  · exact .inl h
  · exact .inr ⟨g, off, cap, cur, h1, h2, hg.at h3 (hn g h2), h4⟩
theorem Try.info3i : (Try.prog.info? 3).map (fun i => (i.zero, i.size, i.bytes)) = some (some (.int .i64 0), 1, 8) := by kernel_rfl
theorem gro_set (w : World) (p : Addr) (v : Value) : Gro (fun k => k = p.block) w (w.setCell p v) :=
  ⟨rfl, rfl, rfl, by simp, fun k _ hn => Below.heap_setCell w p v k hn⟩
/-- An append of one number. -/
theorem wpList_append_part {ops : Array Oper} {rest : List Oper} {o : Oper} {a : Act} {Q : Exit → Act → World → Prop} (w : World)
    (hg : o.guard = none) (s x : Operand) (hop : o.op = Op.call { callee := Callee.builtin Builtin.append, args := #[s, x], argTypes := #[68, 68] })
    (P : Nat → Prop) (hP : ∀ g, w.heap.size ≤ g → P g) (v : Value) (l : List Int) (hs : a.eval s = v) (hv : Part P w v l)
    (ab : Nat) (y : Int) (c : Nat) (hx : a.eval x = .slice (some ⟨ab, 0, none⟩) 1 c) (hc : w.cell? ⟨ab, 0, none⟩ = some (.int .i64 y)) (hl : l.length < 10000)
    (h : ∀ v' w', Part P w' v' (l ++ [y]) → Gro P w w' → wpList Try.prog ops Q rest (a.put o.dst v') w') : wpList Try.prog ops Q (o :: rest) a w := by
  obtain ⟨i0, hi, hz'⟩ := Option.map_eq_some_iff.1 Try.info3i
  simp only [Prod.mk.injEq] at hz'
  obtain ⟨hz0, hz1, hz2⟩ := hz'
  have hnews : ∀ j u, ([.int .i64 y] : List Value)[j]? = some u → w.cell? ((⟨ab, 0, none⟩ : Addr).add j) = some u := by
    intro j u hj
    cases j with
    | zero => rw [Addr.add_lit]; simp at hj; subst hj; exact hc
    | succ j => simp at hj
  have grown : ∀ (olds : List Value) (v' : Value) (w' : World), olds.length = l.length → (∀ j, j < l.length → olds[j]? = some (.int .i64 (l.getD j 0))) → w'.ownsRow w.heap.size 3 1 v' (l.length + 1) (olds ++ [.int .i64 y]) → w.grownBy w' none → Part P w' v' (l ++ [y]) ∧ Gro P w w' := by
    intro olds v' w' ho ho2 hown hgr
    refine ⟨?_, ⟨hgr.os, hgr.tape, hgr.output, hgr.size, fun k hk _ => hgr.block k hk (by simp)⟩⟩
    rcases hown.2 with ⟨_, h0⟩ | ⟨g, cap, cur, hv', hb, hgg, hcap1, hcap2, hcs, htk⟩
    · omega
    · refine .inr ⟨g, 0, cap, cur, by rw [List.length_append, List.length_singleton]; exact hv', hP g hb, hgg, by rw [List.length_append, List.length_singleton]; exact hcap1, hcap2, by omega, fun j hj => ?_⟩
      rw [List.length_append, List.length_singleton] at hj
      have e1 : cur[0 + j]? = cur.toList[j]? := by simp
      have e2 : cur.toList[j]? = (cur.toList.take ((l.length + 1) * 1))[j]? := by rw [List.getElem?_take, if_pos (by omega)]
      rw [e1, e2, htk]
      by_cases hjl : j < l.length
      · rw [List.getElem?_append_left (by omega), ho2 j hjl]
        simp [List.getD, List.getElem?_append_left hjl]
      · obtain rfl : j = l.length := by omega
        rw [List.getElem?_append_right (by omega), ho]
        simp [List.getD]
  rcases hv with ⟨rfl, rfl⟩ | ⟨g, off, cap, cur, rfl, hPg, hgg, hc1, hc2, hsz, hat⟩
  · refine wpList_append_grows w hg s x 68 hop 3 i0 (.int .i64 0) 1 8 Try.underlying68 hi hz0 hz1 hz2 rfl (by decide) none 0 0 [] hs (fun _ => ⟨rfl, rfl⟩) rfl (fun b hb => by cases hb) ⟨ab, 0, none⟩ 1 c [.int .i64 y] hx rfl hnews (by simp [Value.oneCell']) (by omega) (by simp [maxLen]) (by omega) (fun v' w' hown hgr => ?_)
    obtain ⟨k1, k2⟩ := grown [] v' w' rfl (fun j hj => by simp at hj) hown hgr
    exact h v' w' k1 k2
  · refine wpList_append_arg w hg s x 68 hop 3 i0 (.int .i64 0) 1 8 Try.underlying68 hi hz0 hz1 hz2 rfl (by decide) g off l.length cap (l.map fun z : Int => Value.int .i64 z) hs (by simp) (fun j u hj => ?_) ⟨ab, 0, none⟩ 1 c [.int .i64 y] hx rfl hnews (by simp [Value.oneCell']) (fun hr j hj => ?_) (by simp [maxLen]; omega) (by omega) (fun hr => ?_) (fun hr v' w' hown hgr => ?_)
    · have hjl : j < l.length := by
        have := List.getElem?_eq_some_iff.1 hj
        simpa using this.1
      rw [Lib.cell_of_heap hgg, hat j hjl]
      simp [List.getElem?_map, hjl] at hj
      simp [List.getD, hjl, hj]
    · obtain rfl : j = 0 := by simpa using hj
      refine ⟨?_, Lib.frozen_of_heap hgg _⟩
      rw [Lib.cell_of_heap hgg]
      simp
      omega
    · have hne : g < w.heap.size := blt hgg
      refine h _ _ (.inr ⟨g, off, cap, cur.setIfInBounds (off + l.length) (.int .i64 y), by simp, hPg, ?_, by simpa using hr, hc2, by simpa using hsz, fun j hj => ?_⟩) ⟨rfl, rfl, rfl, by simp [World.setCells], fun k hk hn => ?_⟩
      · show (w.setCell ⟨g, off + l.length * 1, none⟩ (.int .i64 y)).heap[g]? = _
        rw [Nat.mul_one]
        exact Go.Joins.block_setCell hgg _
      · rw [List.length_append, List.length_singleton] at hj
        by_cases hjl : j < l.length
        · rw [Array.getElem?_setIfInBounds_ne (by omega), hat j hjl]
          simp [List.getD, List.getElem?_append_left hjl]
        · obtain rfl : j = l.length := by omega
          rw [Array.getElem?_setIfInBounds_self_of_lt (by omega)]
          simp [List.getD]
      · refine Below.heap_setCell w ⟨g, off + l.length * 1, none⟩ (.int .i64 y) k ?_
        rintro rfl
        exact hn hPg
    · obtain ⟨k1, k2⟩ := grown _ v' w' (by simp) (fun j hj => by simp [List.getElem?_map, List.getD, hj]) hown hgr
      exact h v' w' k1 k2
theorem Part.form {P : Nat → Prop} {w : World} {v : Value} {l : List Int} (h : Part P w v l) : ∃ ao c, v = .slice ao l.length c := by
  rcases h with ⟨rfl, rfl⟩ | ⟨g, off, cap, cur, rfl, -⟩
  · exact ⟨none, 0, rfl⟩
  · exact ⟨_, cap, rfl⟩
/-- A row of bools in block g. -/
def LayB (w : World) (g n : Nat) (M : Nat → Bool) : Prop := ∃ cur : Array Value, w.heap[g]? = some (.cells cur 4) ∧ cur.size = n ∧ ∀ j, j < n → cur[j]? = some (.bool (M j))
theorem LayB.cell {w : World} {g n : Nat} {M : Nat → Bool} (h : LayB w g n M) (j : Nat) (hj : j < n) : w.cell? ⟨g, j, none⟩ = some (.bool (M j)) ∧ w.frozen? ⟨g, j, none⟩ = false := by
  obtain ⟨cur, h1, h2, h3⟩ := h
  exact ⟨(Lib.cell_of_heap h1 j).trans (h3 j hj), Lib.frozen_of_heap h1 j⟩
theorem LayB.put {w : World} {g n : Nat} {M : Nat → Bool} (h : LayB w g n M) (i : Nat) (hi : i < n) : LayB (w.setCell ⟨g, i, none⟩ (.bool true)) g n (fun k => k == i || M k) := by
  obtain ⟨cur, h1, h2, h3⟩ := h
  refine ⟨cur.setIfInBounds i (.bool true), Go.Joins.block_setCell h1 _, by simpa using h2, fun j hj => ?_⟩
  by_cases e : j = i
  · subst e
    rw [Array.getElem?_setIfInBounds_self_of_lt (by omega)]
    simp
  · rw [Array.getElem?_setIfInBounds_ne (fun e' => e e'.symm), h3 j hj]
    simp [e]
theorem LayB.gro {P : Nat → Prop} {w w' : World} {g n : Nat} {M : Nat → Bool} (h : LayB w g n M) (hg : Gro P w w') (hn : ¬ P g) : LayB w' g n M := by
  obtain ⟨cur, h1, h2⟩ := h
  exact ⟨cur, hg.at h1 hn, h2⟩
theorem LayB.later {w w' : World} {g n : Nat} {M : Nat → Bool} (h : LayB w g n M) (hb : Below w.heap.size w w') : LayB w' g n M := h.gro (Gro.of_below (P := fun _ => False) hb) (fun h => h)
end Go.Proofs.Ytmnfmilgpglfcaa
