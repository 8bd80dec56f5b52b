/-
  The queue of the search: put and take.
-/
import Derived.Test.YtjgmkigfpjmlaabDoorP1
namespace Go.Proofs.YtjgmkigfpjmlaabDoor
set_option linter.unusedVariables false
set_option linter.unusedSimpArgs false
open Go.RowKit

theorem gro_set (w : World) (p : Addr) (v : Value) : Gro (fun k => k = p.block) w (w.setCell p v) :=
  ⟨rfl, rfl, rfl, by simp, fun k _ hn => Below.heap_setCell w p v k hn⟩
theorem Que.box {P : Nat → Prop} {w : World} {qb : Nat} {v0 v : Value} {l : List Int} (h : w.heap[qb]? = some (.cells #[v0] 108)) (hq : ¬ P qb) (hv : Part P w v l) : Que P (w.setCell ⟨qb, 0, none⟩ v) qb l := by
  refine ⟨v, (Go.Joins.block_setCell h v).trans (by simp), hv.gro (gro_set w ⟨qb, 0, none⟩ v) ?_⟩
  rintro k hk rfl
  exact hq hk

theorem take_some (P : Nat → Prop) (qb : Nat) (x : Int) (l : List Int) (w : World) (hq : ¬ P qb) (h : Que P w qb (x :: l)) (hl : l.length < 10000) : Calls Tryd.prog 66 #[.pointer (some ⟨qb, 0, none⟩)] w fun e w' => e = .returned (.tuple #[.int .i64 x, .bool true]) ∧ Que P w' qb l ∧ Gro (fun k => k = qb) w w' ∧ w'.heap.size = w.heap.size := by
  obtain ⟨v, h1, h2⟩ := h.ex
  rcases h2 with ⟨-, h2⟩ | ⟨g, off, cap, cur, rfl, hP, hg, hc1, hc2, hsz, hat⟩
  · cases h2
  have c0 : w.cell? ⟨qb, 0, none⟩ = some (.slice (some ⟨g, off, none⟩) (x :: l).length cap) := Lib.cell_of_heap h1 0
  have f0 : w.frozen? ⟨qb, 0, none⟩ = false := Lib.frozen_of_heap h1 0
  have c1 : w.cell? ⟨g, off, none⟩ = some (.int .i64 x) := (Lib.cell_of_heap hg off).trans (hat 0 (by simp))
  have HB : Hid (∀ v, Part P w v l → Que P (w.setCell ⟨qb, 0, none⟩ v) qb l) := fun v hv => Que.box h1 hq hv
  have HA : Hid (∀ v, v = .slice (some ⟨g, off + 1, none⟩) l.length (cap - 1) → Part P w v l) := fun v hv => .inr ⟨g, off + 1, cap - 1, cur, hv, hP, hg, by simp at hc1; omega, by omega, by simp at hc1; omega, fun j hj => by
    have := hat (j + 1) (by simp; omega)
    rw [show off + (j + 1) = off + 1 + j from by omega] at this
    simpa using this⟩
  have HA0 : Hid (∀ v, cap = 1 → v = .slice (some ⟨g, off, none⟩) l.length 0 → Part P w v l) := fun v hc hv => by
    have hl0 : l.length = 0 := by simp at hc1; omega
    exact .inr ⟨g, off, 0, cur, hv, hP, hg, by omega, by simp [maxLen], by omega, fun j hj => by omega⟩
  rw [List.length_cons] at c0 hc1
  have hi : (0 : Int) < (l.length : Int) + 1 := by omega
  have hi2 : ¬ ((l.length : Int) + 1 = 0) := by omega
  unfold maxLen at hc2
  have hcap : (cap : Int) ≤ 9223372036854775807 := by omega
  have hcl : (l.length : Int) + 1 ≤ cap := by omega
  clear h hat hg hP h1
  go_enter Tryd.func66, Tryd.ntmps66
  go_wp2
  · refine bodyPost_ret (v := .tuple #[.int .i64 x, .bool true]) (by simp [results, go_sem]) rfl ⟨rfl, HB.out _ (HA0.out _ (by assumption) rfl), gro_set w ⟨qb, 0, none⟩ _, by simp⟩
  · refine bodyPost_ret (v := .tuple #[.int .i64 x, .bool true]) (by simp [results, go_sem]) rfl ⟨rfl, HB.out _ (HA.out _ rfl), gro_set w ⟨qb, 0, none⟩ _, by simp⟩

/-- An append of one number. -/
theorem wpList_append_part {ops : Array Oper} {rest : List Oper} {o : Oper} {a : Act} {Q : Exit → Act → World → Prop} (w : World)
    (hg : o.guard = none) (s x : Operand) (hop : o.op = Op.call { callee := Callee.builtin Builtin.append, args := #[s, x], argTypes := #[28, 28] })
    (P : Nat → Prop) (hP : ∀ g, w.heap.size ≤ g → P g) (v : Value) (l : List Int) (hs : a.eval s = v) (hv : Part P w v l)
    (ab : Nat) (y : Int) (c : Nat) (hx : a.eval x = .slice (some ⟨ab, 0, none⟩) 1 c) (hc : w.cell? ⟨ab, 0, none⟩ = some (.int .i64 y)) (hl : l.length < 10000)
    (h : ∀ v' w', Part P w' v' (l ++ [y]) → Gro P w w' → wpList Tryd.prog ops Q rest (a.put o.dst v') w') : wpList Tryd.prog ops Q (o :: rest) a w := by
  obtain ⟨i0, hi, hz'⟩ := Option.map_eq_some_iff.1 Tryd.info3i
  simp only [Prod.mk.injEq] at hz'
  obtain ⟨hz0, hz1, hz2⟩ := hz'
  have hnews : ∀ j u, ([.int .i64 y] : List Value)[j]? = some u → w.cell? ((⟨ab, 0, none⟩ : Addr).add j) = some u := by
    intro j u hj
    cases j with
    | zero => rw [Addr.add_lit]; simp at hj; subst hj; exact hc
    | succ j => simp at hj
  have grown : ∀ (olds : List Value) (v' : Value) (w' : World), olds.length = l.length → (∀ j, j < l.length → olds[j]? = some (.int .i64 (l.getD j 0))) → w'.ownsRow w.heap.size 3 1 v' (l.length + 1) (olds ++ [.int .i64 y]) → w.grownBy w' none → Part P w' v' (l ++ [y]) ∧ Gro P w w' := by
    intro olds v' w' ho ho2 hown hgr
    refine ⟨?_, ⟨hgr.os, hgr.tape, hgr.output, hgr.size, fun k hk _ => hgr.block k hk (by simp)⟩⟩
    rcases hown.2 with ⟨_, h0⟩ | ⟨g, cap, cur, hv', hb, hgg, hcap1, hcap2, hcs, htk⟩
    · omega
    · refine .inr ⟨g, 0, cap, cur, by rw [List.length_append, List.length_singleton]; exact hv', hP g hb, hgg, by rw [List.length_append, List.length_singleton]; exact hcap1, hcap2, by omega, fun j hj => ?_⟩
      rw [List.length_append, List.length_singleton] at hj
      have e1 : cur[0 + j]? = cur.toList[j]? := by simp
      have e2 : cur.toList[j]? = (cur.toList.take ((l.length + 1) * 1))[j]? := by rw [List.getElem?_take, if_pos (by omega)]
      rw [e1, e2, htk]
      by_cases hjl : j < l.length
      · rw [List.getElem?_append_left (by omega), ho2 j hjl]
        simp [List.getD, List.getElem?_append_left hjl]
      · obtain rfl : j = l.length := by omega
        rw [List.getElem?_append_right (by omega), ho]
        simp [List.getD]
  rcases hv with ⟨rfl, rfl⟩ | ⟨g, off, cap, cur, rfl, hPg, hgg, hc1, hc2, hsz, hat⟩
  · refine wpList_append_grows w hg s x 28 hop 3 i0 (.int .i64 0) 1 8 Tryd.underlying28 hi hz0 hz1 hz2 rfl (by decide) none 0 0 [] hs (fun _ => ⟨rfl, rfl⟩) rfl (fun b hb => by cases hb) ⟨ab, 0, none⟩ 1 c [.int .i64 y] hx rfl hnews (by simp [Value.oneCell']) (by omega) (by simp [maxLen]) (by omega) (fun v' w' hown hgr => ?_)
    obtain ⟨k1, k2⟩ := grown [] v' w' rfl (fun j hj => by simp at hj) hown hgr
    exact h v' w' k1 k2
  · refine wpList_append_arg w hg s x 28 hop 3 i0 (.int .i64 0) 1 8 Tryd.underlying28 hi hz0 hz1 hz2 rfl (by decide) g off l.length cap (l.map fun z : Int => Value.int .i64 z) hs (by simp) (fun j u hj => ?_) ⟨ab, 0, none⟩ 1 c [.int .i64 y] hx rfl hnews (by simp [Value.oneCell']) (fun hr j hj => ?_) (by simp [maxLen]; omega) (by omega) (fun hr => ?_) (fun hr v' w' hown hgr => ?_)
    · have hjl : j < l.length := by
        have := List.getElem?_eq_some_iff.1 hj
        simpa using this.1
      rw [Lib.cell_of_heap hgg, hat j hjl]
      simp [List.getElem?_map, hjl] at hj
      simp [List.getD, hjl, hj]
    · obtain rfl : j = 0 := by simpa using hj
      refine ⟨?_, Lib.frozen_of_heap hgg _⟩
      rw [Lib.cell_of_heap hgg]
      simp
      omega
    · have hne : g < w.heap.size := blt hgg
      refine h _ _ (.inr ⟨g, off, cap, cur.setIfInBounds (off + l.length) (.int .i64 y), by simp, hPg, ?_, by simpa using hr, hc2, by simpa using hsz, fun j hj => ?_⟩) ⟨rfl, rfl, rfl, by simp [World.setCells], fun k hk hn => ?_⟩
      · show (w.setCell ⟨g, off + l.length * 1, none⟩ (.int .i64 y)).heap[g]? = _
        rw [Nat.mul_one]
        exact Go.Joins.block_setCell hgg _
      · rw [List.length_append, List.length_singleton] at hj
        by_cases hjl : j < l.length
        · rw [Array.getElem?_setIfInBounds_ne (by omega), hat j hjl]
          simp [List.getD, List.getElem?_append_left hjl]
        · obtain rfl : j = l.length := by omega
          rw [Array.getElem?_setIfInBounds_self_of_lt (by omega)]
          simp [List.getD]
      · refine Below.heap_setCell w ⟨g, off + l.length * 1, none⟩ (.int .i64 y) k ?_
        rintro rfl
        exact hn hPg
    · obtain ⟨k1, k2⟩ := grown _ v' w' (by simp) (fun j hj => by simp [List.getElem?_map, List.getD, hj]) hown hgr
      exact h v' w' k1 k2

theorem Part.form {P : Nat → Prop} {w : World} {v : Value} {l : List Int} (h : Part P w v l) : ∃ ao c, v = .slice ao l.length c := by
  rcases h with ⟨rfl, rfl⟩ | ⟨g, off, cap, cur, rfl, -⟩
  · exact ⟨none, 0, rfl⟩
  · exact ⟨_, cap, rfl⟩
theorem put_is (P : Nat → Prop) (qb : Nat) (l : List Int) (ab : Nat) (y : Int) (w : World) (hq : ¬ P qb) (hP : ∀ g, w.heap.size ≤ g → P g) (h : Que P w qb l) (hc : w.cell? ⟨ab, 0, none⟩ = some (.int .i64 y)) (hl : l.length < 10000) :
    Calls Tryd.prog 65 #[.pointer (some ⟨qb, 0, none⟩), .slice (some ⟨ab, 0, none⟩) 1 1] w fun e w' => e = .returned (.tuple #[]) ∧ Que P w' qb (l ++ [y]) ∧ Gro (fun k => k = qb ∨ P k) w w' := by
  obtain ⟨v, h1, h2⟩ := h.ex
  obtain ⟨ao, cp, rfl⟩ := h2.form
  have c0 : w.cell? ⟨qb, 0, none⟩ = some (.slice ao l.length cp) := Lib.cell_of_heap h1 0
  have H1 := hid h1
  have H2 := hid h2
  have HP := hid hP
  have HQ := hid hq
  clear h h1 h2 hP hq
  go_enter Tryd.func65, Tryd.ntmps65
  go_wp2_with (at_builtin; refine wpList_append_part _ rfl _ _ rfl P HP.out _ l rfl H2.out ab y 1 rfl hc hl ?_; intro v' w' k1 k2; obtain ⟨ao', cp', rfl⟩ := k1.form; have K1 := hid k1; have K2 := hid k2; have KB := hid (k2.at H1.out HQ.out); have c1 : w'.cell? ⟨qb, 0, none⟩ = some (.slice ao l.length cp) := Lib.cell_of_heap KB.out 0; have f1 : w'.frozen? ⟨qb, 0, none⟩ = false := Lib.frozen_of_heap KB.out 0; clear k1 k2)
  refine bodyPost_end (results_none rfl _ _ _) rfl ⟨rfl, Que.box KB.out HQ.out (by have := K1.out; simpa using this), ?_⟩
  exact (show Gro (fun k => k = qb ∨ P k) w w' from ⟨K2.out.os, K2.out.tape, K2.out.output, K2.out.size, fun k hk hn => K2.out.block k hk (fun hp => hn (.inr hp))⟩).trans ⟨rfl, rfl, rfl, by simp, fun k hk hn => Below.heap_setCell _ _ _ k (fun e => hn (.inl e))⟩
end Go.Proofs.YtjgmkigfpjmlaabDoor
