/-
  A map of places; the law CompsLeads.
-/
import Derived.Maps.Own
import Derived.Maps.OwnSet
import Derived.Maps.OwnOps
import Derived.Maps.Views
import Derived.Test.YtjgmkigfpjmlaaaDoorZO5
namespace Go.Proofs.YtjgmkigfpjmlaaaDoor
set_option linter.unusedVariables false
set_option linter.unusedSimpArgs false
open Go.RowKit Go.Maps

theorem keys3 : Keyed Tryd.prog 3 := int_keyed Tryd.underlying3
theorem zero3 (w : World) : (zeroValue 3).run Tryd.prog w = .ok (.int .i64 0) w := by kernel_rfl
theorem wf_small (x : Nat) (hx : x ≤ 300) : (Lit.int .i64 (x : Int)).wf = true := by
  simp [Lit.wf, IntKind.min, IntKind.max, IntKind.signed, IntKind.bits]
  omega
/-- A map that has each number of l by its place. -/
def MI (w : World) (mb k : Nat) (l : List Nat) : Prop := ∃ D : DataW Unit, w.ownsMap Tryd.prog 3 (plainElem Tryd.prog 3) mb k D ∧ Maps.size D = l.length ∧ (∀ x : Nat, Maps.has D (.int .i64 x) = true → x ∈ l) ∧ ∀ i, i < l.length → D.atKey (.int .i64 (l.getD i 0 : Nat)) (.lit (.int .i64 0)) = .lit (.int .i64 i)
theorem MI.made (w : World) : MI (w.alloc (.map #[] 0)) w.heap.size 0 [] := ⟨_, World.ownsMap_made _ _ _ _, rfl, fun x h => (by cases h), fun i hi => (by simp at hi)⟩
theorem MI.later {w w' : World} {mb k : Nat} {l : List Nat} (h : MI w mb k l) (hb : Below w.heap.size w w') : MI w' mb k l := by
  obtain ⟨D, ⟨es, clock, h1, h2, h3, h4⟩, h5⟩ := h
  exact ⟨D, ⟨es, clock, (hb.block mb (blt h1)).trans h1, h2, h3, h4⟩, h5⟩
theorem MI.lt {w : World} {mb k : Nat} {l : List Nat} (h : MI w mb k l) : mb < w.heap.size := by
  obtain ⟨D, h1, _⟩ := h
  exact h1.lt
set_option maxRecDepth 100000 in
theorem MI.look {w : World} {mb k : Nat} {l : List Nat} (h : MI w mb k l) (i : Nat) (hi : i < l.length) (hx : l.getD i 0 ≤ 300) : (Instr.lookup 42 (.map (some mb)) (.int .i64 (l.getD i 0 : Nat)) false).run Tryd.prog w = .ok (.int .i64 i) w := by
  obtain ⟨D, h1, _, _, h2⟩ := h
  obtain ⟨v, ps, hrun, hv⟩ := h1.lookup keys3 Tryd.underlying42 (zero3 w) (plainElem_int Tryd.underlying3 (wf_small 0 (by omega))) (keyOf_int_mk Tryd.underlying3 (wf_small _ hx))
  obtain ⟨y, rfl, hy, _⟩ := plainElem_int_inv Tryd.underlying3 hv
  have h3 := h2 i hi
  injection hy with hy1 hy2
  have h4 : (DataW.lit (.int .i64 (i : Int)) : DataW Unit) = .lit (.int .i64 y) := h3.symm.trans hy1
  injection h4 with h4
  injection h4 with _ h4
  rw [hrun, h4]
set_option maxRecDepth 100000 in
theorem MI.len {w : World} {mb k : Nat} {l : List Nat} (h : MI w mb k l) (ty : TypeId) : (Builtin.len_ #[42] ty #[.map (some mb)]).run Tryd.prog w = .ok (.int .i64 l.length) w := by
  obtain ⟨D, h1, h2, _⟩ := h
  rw [h1.len Tryd.underlying42 ty, h2]
set_option maxRecDepth 100000 in
theorem wpList_mi {ops : Array Oper} {rest : List Oper} {o : Oper} {a : Act} {Q : Exit → Act → World → Prop} (w : World) (hg : o.guard = none) (m x v : Operand) (hop : o.op = Op.mapUpdate 42 m x v)
    (mb k : Nat) (l : List Nat) (hm : a.eval m = .map (some mb)) (h : MI w mb k l) (hn : k < 10000) (y : Nat) (hx : a.eval x = .int .i64 y) (hv : a.eval v = .int .i64 l.length) (hy : y ≤ 300) (hnew : y ∉ l) (hl : l.length ≤ 300) (hs : ∀ z ∈ l, z ≤ 300)
    (hK : ∀ w', MI w' mb (k + 1) (l ++ [y]) → Gro (fun b => b = mb) w w' → wpList Tryd.prog ops Q rest (a.put o.dst undef) w') : wpList Tryd.prog ops Q (o :: rest) a w := by
  obtain ⟨D, h1, h2, h3, h4⟩ := h
  refine wpList_mapUpdate_own w hg m x v 42 hop 3 3 keys3 Tryd.underlying42 _ mb k D hm h1 (by unfold maxLen; omega) _ _ (.int .i64 (y : Int)) hx hv (keyOf_int_mk Tryd.underlying3 (wf_small y hy)) (.lit (.int .i64 (l.length : Int))) [] (plainElem_int Tryd.underlying3 (wf_small _ hl)) (fun w' r1 r2 => hK w' ⟨_, r1, ?_, fun z hz => ?_, fun i hi => ?_⟩ ⟨r2.os, r2.tape, r2.output, r2.size, fun b hb hn => r2.block b hb (fun e => hn (by injection e))⟩)
  · rw [size_put (h1.tidy keys3)]
    have hf : Maps.has D (.int .i64 (y : Int)) = false := by
      cases hh : Maps.has D (.int .i64 (y : Int)) with
      | false => rfl
      | true => exact absurd (h3 y hh) hnew
    rw [hf, h2]
    simp
  · by_cases e : z = y
    · simp [e]
    · rw [has_put_other (by intro c; injection c with c1 c2; omega)] at hz
      exact List.mem_append_left _ (h3 z hz)
  · rw [List.length_append, List.length_singleton] at hi
    by_cases hil : i < l.length
    · have e : (l ++ [y]).getD i 0 = l.getD i 0 := by simp [List.getD, List.getElem?_append_left hil]
      have hne : l.getD i 0 ≠ y := fun c => hnew (by rw [← c]; simp [List.getD, hil])
      rw [e, atKey_put_other (by intro c; injection c with c1 c2; omega)]
      exact h4 i hil
    · obtain rfl : i = l.length := by omega
      have e : (l ++ [y]).getD l.length 0 = y := by simp [List.getD]
      rw [e, atKey_put_same h1.isMap (by first | trivial | exact ⟨⟩ | simp [WideAt.IsKeyLit])]

theorem Ints.keepM {B : Nat} {w w' : World} {v : Value} {l l' : List Nat} {mb k : Nat} (h : Ints B w v l) (hm : MI w mb k l') (g : Gro (fun b => b = mb) w w') : Ints B w' v l := by
  refine World.ownsRow.kept (row := some mb) h ⟨g.os, g.tape, g.output, g.size, fun k hk hn => g.block k hk (fun e => hn (by rw [e]))⟩ ?_
  obtain ⟨D, ⟨es, clock, h1, _⟩, _⟩ := hm
  rcases h.2 with ⟨hv, _⟩ | ⟨g', cap, cur, hv, _, hh, _⟩
  · rw [hv]; exact .inl rfl
  · rw [hv]
    right
    simp [Value.ownBlock]
    rintro rfl
    rw [hh] at h1
    cases h1
theorem take_get (l : List Nat) (j : Nat) (hj : j < l.length) : l.take (j + 1) = l.take j ++ [l.getD j 0] := by
  rw [List.take_succ_eq_append_getElem hj]
  simp [List.getD, hj]
theorem allE_mem {L : Nat → Nat → Nat} {n k : Nat} {e : Nat × Nat × Nat} (h : e ∈ allE L n k) : e.1 < k ∧ e.2.1 < n ∧ e.2.2 = L e.1 e.2.1 := by
  unfold allE at h
  obtain ⟨f, hf, h2⟩ := List.mem_flatMap.1 h
  unfold rowE at h2
  obtain ⟨t, ht, rfl⟩ := List.mem_map.1 h2
  unfold lst at ht
  exact ⟨List.mem_range.1 hf, List.mem_range.1 (List.mem_filter.1 ht).1, rfl⟩
theorem getD_mem {α : Type} {l : List α} {j : Nat} {d : α} (h : j < l.length) : l.getD j d ∈ l := by simp [List.getD, h]
theorem Beg.places {E : Nat → Nat → Bool} {n : Nat} {l : List Nat} (h : Beg E n l) (hl : l.length = n) (f t : Nat) (hf : f < n) (ht : t < n) (he : E f t = true) : ∃ i j, i < j ∧ j < l.length ∧ l.getD i 0 = f ∧ l.getD j 0 = t := by
  obtain ⟨j, hj, e⟩ := List.getElem_of_mem (h.all hl t ht)
  have ej : l.getD j 0 = t := by simp [List.getD, hj, e]
  obtain ⟨i, hi, ei⟩ := h.leads j hj f hf (by rw [ej]; exact he)
  exact ⟨i, j, hi, hj, ei, ej⟩
end Go.Proofs.YtjgmkigfpjmlaaaDoor
