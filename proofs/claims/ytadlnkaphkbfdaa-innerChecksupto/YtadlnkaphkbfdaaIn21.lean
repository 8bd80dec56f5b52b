/-
  The document's words of a read: rightList.
-/
import Derived.Test.YtadlnkaphkbfdaaIn20
import Derived.Test.YtadlnkaphkbfdaaIn12
import Derived.BigQuiet
namespace Go.Proofs.Ytadlnkaphkbfdaa
set_option linter.unusedVariables false
set_option linter.unusedSimpArgs false
open Go.RowKit Go.Lib Go.Sort

set_option maxRecDepth 100000 in
/-- append([]int{}, l...): a row of one's own with what l holds. -/
theorem wpList_copyL {ops : Array Oper} {rest : List Oper} {o : Oper} {a : Act} {Q : Exit → Act → World → Prop} (B : Nat) (w : World) (hgd : o.guard = none) (s x : Operand)
    (ho : o.op = .call { callee := .builtin .append, args := #[s, x], argTypes := #[26, 26] }) (g0 : Nat) (hs : a.eval s = .slice (some ⟨g0, 0, none⟩) 0 0) (hg0 : w.heap[g0]? = some (.cells #[] 3 (0, 0))) (hB : B ≤ g0)
    (la : Option Addr) (ln lc : Nat) (hx : a.eval x = .slice la ln lc) (xs : List Int) (hi : IntsIn Any w (.slice la ln lc) xs)
    (hK : ∀ v' w', w'.ownsRow B 3 1 v' xs.length (xs.map (Value.int .i64)) → Below g0 w w' → wpList Try.prog ops Q rest (a.put o.dst v') w') : wpList Try.prog ops Q (o :: rest) a w := by
  obtain ⟨i0, hi0, hz0, hz1, hz2⟩ := info_parts Try.infoInt
  have hlt : g0 < w.heap.size := (Array.getElem?_eq_some_iff.1 hg0).1
  have row0 : w.ownsRow B 3 1 (.slice (some ⟨g0, 0, none⟩) 0 0) 0 [] := ⟨rfl, .inr ⟨g0, 0, #[], rfl, hB, hg0, Nat.le_refl _, by unfold maxLen; omega, rfl, rfl⟩⟩
  obtain ⟨ao, c, hv, ⟨hby, hcap⟩, hc⟩ := hi
  injection hv with e1 e2 e3
  subst e1 e2 e3
  by_cases hn : xs.length = 0
  · have hxs : xs = [] := List.length_eq_zero_iff.1 hn
    subst hxs
    refine wpList_plain hgd fun K hK' => ?_
    have hrun : (Builtin.append_ #[26, 26] o.type #[.slice (some ⟨g0, 0, none⟩) 0 0, .slice la 0 lc]).run Try.prog w = .ok (.slice (some ⟨g0, 0, none⟩) 0 0) w := by
      cases la <;> simp [Builtin.append_, run_underlying Try.underlying26, sizeOf, typeInfo, hi0, Builtin.lenOf, Builtin.firstCells, storeCells, loadCells, loadCellsFrom, Result.andThen]
    unfold Oper.wp
    simp [execOp, ho, resolve, invoke, builtin, hs, hx, hrun, Result.andThen]
    exact hK' _ _ (hK _ _ row0 (Below.refl _ _))
  · obtain ⟨b, off, hao, _, hcc⟩ := hc (by omega)
    subst hao
    refine wpList_append_lies _ hgd s x 26 ho B 3 i0 (.int .i64 0) 1 8 Try.underlying26 hi0 hz0 hz1 hz2 rfl (by decide) _ 0 [] hs row0 ⟨b, off, none⟩ xs.length lc (xs.map (Value.int .i64)) hx (by simp) (fun j u hj => ?_) (fun u hu => ?_) (by omega) (by unfold maxLen; omega) (by omega) (by omega) w.heap.size rfl ?_
    · rw [Addr.add_lit]
      have hjl : j < xs.length := by
        have := (List.getElem?_eq_some_iff.1 hj).1
        simpa using this
      have e : u = .int .i64 (xs.getD j default) := by
        rw [List.getElem?_map] at hj
        simp [List.getD, hjl] at hj ⊢
        exact hj.symm
      rw [e]
      exact hcc j hjl
    · obtain ⟨z, _, rfl⟩ := List.mem_map.1 hu
      rfl
    · intro g cap w4 hown hgrow hat hglt
      rw [Nat.zero_add] at hown ⊢
      exact hK _ w4 hown ⟨hgrow.os, hgrow.tape, hgrow.output, hgrow.size, fun k hk => hgrow.block k (by omega) (fun e => by
        have e' : k = g0 := by injection e
        omega)⟩
end Go.Proofs.Ytadlnkaphkbfdaa
