/-
  The document's Apply.
-/
import Derived.Test.YtjeheknhpfkaiaaDoorR4
import Derived.Deep.RegionLaw
namespace Go.Proofs.YtjeheknhpfkaiaaDoor
set_option linter.unusedVariables false
set_option linter.unusedSimpArgs false
open Go.RowKit Go.Lib

theorem Tryd.infoOp : (Tryd.prog.info? 56).map (fun i => (i.zero, i.size, i.bytes)) = some (some (.agg #[.int .i64 0, .string ⟨#[]⟩, .int .i64 0, .slice none 0 0, .bool false, .bool false]), 6, 64) := by kernel_rfl
theorem opC_one (O : MOp) (a : Option Addr) (n c : Nat) : ∀ u ∈ opC O (.slice a n c), u.oneCell' = true := by
  intro u hu
  unfold opC at hu
  simp at hu
  rcases hu with rfl | rfl | rfl | rfl | rfl | rfl <;> rfl
theorem rowsV_one (rd : List (MOp × Value)) (h : ∀ r ∈ rd, ∃ a n c, r.2 = .slice a n c) : ∀ u ∈ rowsV rd, u.oneCell' = true := by
  induction rd with
  | nil => intro u hu; simp [rowsV] at hu
  | cons r rd ih =>
    intro u hu
    rw [rowsV] at hu
    rcases List.mem_append.1 hu with q | q
    · obtain ⟨a, n, c, e⟩ := h r (by simp)
      rw [e] at q
      exact opC_one r.1 a n c u q
    · exact ih (fun r hr => h r (by simp [hr])) u q
theorem set_same {w : World} {b : Nat} {u v : Value} {t : TypeId} {fr : Nat × Nat} (h : w.heap[b]? = some (.cells #[v] t fr)) : (w.setCell ⟨b, 0, none⟩ u).heap[b]? = some (.cells #[u] t fr) := by
  unfold World.setCell
  simp [Array.getElem?_modify, h]

set_option maxRecDepth 100000 in
/-- append([]Op{}, s.L...): a row of one's own with the same operations. -/
theorem wpList_copyO {ops : Array Oper} {rest : List Oper} {o : Oper} {a : Act} {Q : Exit → Act → World → Prop} (B D : Nat) (w : World) (hgd : o.guard = none) (s x : Operand)
    (ho : o.op = .call { callee := .builtin .append, args := #[s, x], argTypes := #[22, 22] }) (g0 : Nat) (hs : a.eval s = .slice (some ⟨g0, 0, none⟩) 0 0) (hg0 : w.heap[g0]? = some (.cells #[] 56 (0, 0))) (hB : B ≤ g0)
    (u : Value) (hx : a.eval x = u) (rd : List (MOp × Value)) (hu : w.ownsRow D 56 6 u rd.length (rowsV rd)) (hrd : ∀ r ∈ rd, ∃ a n c, r.2 = .slice a n c) (hlen : rd.length ≤ 1099511627776)
    (hK : ∀ v' w', w'.ownsRow B 56 6 v' rd.length (rowsV rd) → Below g0 w w' → wpList Tryd.prog ops Q rest (a.put o.dst v') w') : wpList Tryd.prog ops Q (o :: rest) a w := by
  obtain ⟨i0, hi0, hz0, hz1, hz2⟩ := info_parts Tryd.infoOp
  have hlt : g0 < w.heap.size := (Array.getElem?_eq_some_iff.1 hg0).1
  have row0 : w.ownsRow B 56 6 (.slice (some ⟨g0, 0, none⟩) 0 0) 0 [] := ⟨rfl, .inr ⟨g0, 0, #[], rfl, hB, hg0, Nat.le_refl _, by unfold maxLen; omega, rfl, rfl⟩⟩
  by_cases hn : rd.length = 0
  · have hxs : rd = [] := List.length_eq_zero_iff.1 hn
    subst hxs
    obtain ⟨la, lc, hv⟩ := own_slice hu
    refine wpList_plain hgd fun K hK' => ?_
    have hrun : (Builtin.append_ #[22, 22] o.type #[.slice (some ⟨g0, 0, none⟩) 0 0, .slice la 0 lc]).run Tryd.prog w = .ok (.slice (some ⟨g0, 0, none⟩) 0 0) w := by
      cases la <;> simp [Builtin.append_, run_underlying Tryd.underlying22, sizeOf, typeInfo, hi0, Builtin.lenOf, Builtin.firstCells, storeCells, loadCells, loadCellsFrom, Result.andThen]
    unfold Oper.wp
    rw [hv] at hx
    simp [execOp, ho, resolve, invoke, builtin, hs, hx, hrun, Result.andThen]
    exact hK' _ _ (hK _ _ row0 (Below.refl _ _))
  · rcases hu.2 with ⟨_, hn0⟩ | ⟨g, cap, cur, hv, hD, hh, h1, h2, h3, h4⟩
    · exact absurd hn0 hn
    · subst hv
      refine wpList_append_lies _ hgd s x 22 ho B 56 i0 (.agg #[.int .i64 0, .string ⟨#[]⟩, .int .i64 0, .slice none 0 0, .bool false, .bool false]) 6 64 Tryd.underlying22 hi0 hz0 hz1 hz2 rfl (by decide) _ 0 [] hs row0 ⟨g, 0, none⟩ rd.length cap (rowsV rd) hx (rowsV_len rd) (fun j v hj => ?_) (rowsV_one rd hrd) (by omega) (by unfold maxLen; omega) (by omega) (by omega) w.heap.size rfl ?_
      · rw [Addr.add_lit]
        have hjl := (List.getElem?_eq_some_iff.1 hj).1
        rw [rowsV_len] at hjl
        rw [Nat.zero_add, World.ownsRow.cellAt hu j hjl]
        exact hj
      · intro g2 cap2 w4 hown hgrow hat hglt
        rw [Nat.zero_add] at hown ⊢
        exact hK _ w4 hown ⟨hgrow.os, hgrow.tape, hgrow.output, hgrow.size, fun k hk => hgrow.block k (by omega) (fun e => by
          have e' : k = g0 := by injection e
          omega)⟩
end Go.Proofs.YtjeheknhpfkaiaaDoor
