/-
  The queue of the search: put and take.
-/
import Derived.Test.YtjgmkigfpjmlaaaDoorP1
namespace Go.Proofs.YtjgmkigfpjmlaaaDoor
set_option linter.unusedVariables false
set_option linter.unusedSimpArgs false
open Go.RowKit

theorem gro_set (w : World) (p : Addr) (v : Value) : Gro (fun k => k = p.block) w (w.setCell p v) :=
  ⟨rfl, rfl, rfl, by simp, fun k _ hn => Below.heap_setCell w p v k hn⟩
/-- An append of one number. -/
theorem wpList_append_part {ops : Array Oper} {rest : List Oper} {o : Oper} {a : Act} {Q : Exit → Act → World → Prop} (w : World)
    (hg : o.guard = none) (s x : Operand) (hop : o.op = Op.call { callee := Callee.builtin Builtin.append, args := #[s, x], argTypes := #[29, 29] })
    (P : Nat → Prop) (hP : ∀ g, w.heap.size ≤ g → P g) (v : Value) (l : List Int) (hs : a.eval s = v) (hv : Part P w v l)
    (ab : Nat) (y : Int) (c : Nat) (hx : a.eval x = .slice (some ⟨ab, 0, none⟩) 1 c) (hc : w.cell? ⟨ab, 0, none⟩ = some (.int .i64 y)) (hl : l.length < 10000)
    (h : ∀ v' w', Part P w' v' (l ++ [y]) → Gro P w w' → wpList Tryd.prog ops Q rest (a.put o.dst v') w') : wpList Tryd.prog ops Q (o :: rest) a w := by
  obtain ⟨i0, hi, hz'⟩ := Option.map_eq_some_iff.1 Tryd.info3i
  simp only [Prod.mk.injEq] at hz'
  obtain ⟨hz0, hz1, hz2⟩ := hz'
  have hnews : ∀ j u, ([.int .i64 y] : List Value)[j]? = some u → w.cell? ((⟨ab, 0, none⟩ : Addr).add j) = some u := by
    intro j u hj
    cases j with
    | zero => rw [Addr.add_lit]; simp at hj; subst hj; exact hc
    | succ j => simp at hj
  have grown : ∀ (olds : List Value) (v' : Value) (w' : World), olds.length = l.length → (∀ j, j < l.length → olds[j]? = some (.int .i64 (l.getD j 0))) → w'.ownsRow w.heap.size 3 1 v' (l.length + 1) (olds ++ [.int .i64 y]) → w.grownBy w' none → Part P w' v' (l ++ [y]) ∧ Gro P w w' := by
    intro olds v' w' ho ho2 hown hgr
    refine ⟨?_, ⟨hgr.os, hgr.tape, hgr.output, hgr.size, fun k hk _ => hgr.block k hk (by simp)⟩⟩
    rcases hown.2 with ⟨_, h0⟩ | ⟨g, cap, cur, hv', hb, hgg, hcap1, hcap2, hcs, htk⟩
    · omega
    · refine .inr ⟨g, 0, cap, cur, by rw [List.length_append, List.length_singleton]; exact hv', hP g hb, hgg, by rw [List.length_append, List.length_singleton]; exact hcap1, hcap2, by omega, fun j hj => ?_⟩
      rw [List.length_append, List.length_singleton] at hj
      have e1 : cur[0 + j]? = cur.toList[j]? := by simp
      have e2 : cur.toList[j]? = (cur.toList.take ((l.length + 1) * 1))[j]? := by rw [List.getElem?_take, if_pos (by omega)]
      rw [e1, e2, htk]
      by_cases hjl : j < l.length
      · rw [List.getElem?_append_left (by omega), ho2 j hjl]
        simp [List.getD, List.getElem?_append_left hjl]
      · obtain rfl : j = l.length := by omega
        rw [List.getElem?_append_right (by omega), ho]
        simp [List.getD]
  rcases hv with ⟨rfl, rfl⟩ | ⟨g, off, cap, cur, rfl, hPg, hgg, hc1, hc2, hsz, hat⟩
  · refine wpList_append_grows w hg s x 29 hop 3 i0 (.int .i64 0) 1 8 Tryd.underlying29 hi hz0 hz1 hz2 rfl (by decide) none 0 0 [] hs (fun _ => ⟨rfl, rfl⟩) rfl (fun b hb => by cases hb) ⟨ab, 0, none⟩ 1 c [.int .i64 y] hx rfl hnews (by simp [Value.oneCell']) (by omega) (by simp [maxLen]) (by omega) (fun v' w' hown hgr => ?_)
    obtain ⟨k1, k2⟩ := grown [] v' w' rfl (fun j hj => by simp at hj) hown hgr
    exact h v' w' k1 k2
  · refine wpList_append_arg w hg s x 29 hop 3 i0 (.int .i64 0) 1 8 Tryd.underlying29 hi hz0 hz1 hz2 rfl (by decide) g off l.length cap (l.map fun z : Int => Value.int .i64 z) hs (by simp) (fun j u hj => ?_) ⟨ab, 0, none⟩ 1 c [.int .i64 y] hx rfl hnews (by simp [Value.oneCell']) (fun hr j hj => ?_) (by simp [maxLen]; omega) (by omega) (fun hr => ?_) (fun hr v' w' hown hgr => ?_)
    · have hjl : j < l.length := by
        have := List.getElem?_eq_some_iff.1 hj
        simpa using this.1
      rw [Lib.cell_of_heap hgg, hat j hjl]
      simp [List.getElem?_map, hjl] at hj
      simp [List.getD, hjl, hj]
    · obtain rfl : j = 0 := by simpa using hj
      refine ⟨?_, Lib.frozen_of_heap hgg _⟩
      rw [Lib.cell_of_heap hgg]
      simp
      omega
    · have hne : g < w.heap.size := blt hgg
      refine h _ _ (.inr ⟨g, off, cap, cur.setIfInBounds (off + l.length) (.int .i64 y), by simp, hPg, ?_, by simpa using hr, hc2, by simpa using hsz, fun j hj => ?_⟩) ⟨rfl, rfl, rfl, by simp [World.setCells], fun k hk hn => ?_⟩
      · show (w.setCell ⟨g, off + l.length * 1, none⟩ (.int .i64 y)).heap[g]? = _
        rw [Nat.mul_one]
        exact Go.Joins.block_setCell hgg _
      · rw [List.length_append, List.length_singleton] at hj
        by_cases hjl : j < l.length
        · rw [Array.getElem?_setIfInBounds_ne (by omega), hat j hjl]
          simp [List.getD, List.getElem?_append_left hjl]
        · obtain rfl : j = l.length := by omega
          rw [Array.getElem?_setIfInBounds_self_of_lt (by omega)]
          simp [List.getD]
      · refine Below.heap_setCell w ⟨g, off + l.length * 1, none⟩ (.int .i64 y) k ?_
        rintro rfl
        exact hn hPg
    · obtain ⟨k1, k2⟩ := grown _ v' w' (by simp) (fun j hj => by simp [List.getElem?_map, List.getD, hj]) hown hgr
      exact h v' w' k1 k2

theorem Part.form {P : Nat → Prop} {w : World} {v : Value} {l : List Int} (h : Part P w v l) : ∃ ao c, v = .slice ao l.length c := by
  rcases h with ⟨rfl, rfl⟩ | ⟨g, off, cap, cur, rfl, -⟩
  · exact ⟨none, 0, rfl⟩
  · exact ⟨_, cap, rfl⟩
end Go.Proofs.YtjgmkigfpjmlaaaDoor
