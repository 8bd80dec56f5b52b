/-
  Rows of strings of one's own, and what append does to them.
-/
import Derived.Test.YtebohmcbeacdkaaDoorDk5
import Derived.Test.YtebohmcbeacdkaaDoorShelfJ
import Derived.Laws.OwnMore
namespace Go.Proofs.YtebohmcbeacdkaaDoor
set_option linter.unusedVariables false
set_option linter.unusedSimpArgs false
open Go.RowKit

theorem Tryd.infoStr : (Tryd.prog.info? 9).map (fun i => (i.zero, i.size, i.bytes)) = some (some (.string ByteArray.empty), 1, 16) := by kernel_rfl

/-- A row of strings of one's own. -/
def SS (B : Nat) (w : World) (v : Value) (l : List ByteArray) : Prop := w.ownsRow B 9 1 v l.length (l.map Value.string)
/-- A slice of strings, its cells. -/
def Src (w : World) (v : Value) (r : List ByteArray) : Prop := ∃ p c, v = .slice p r.length c ∧ (0 < r.length → ∃ g o, p = some ⟨g, o, none⟩ ∧ ∀ j u, r[j]? = some u → w.cell? ⟨g, o + j, none⟩ = some (.string u))
/-- All but one block stays. -/
structure Fr (v : Value) (w w' : World) : Prop where
  os : w'.os = w.os
  tape : w'.tape = w.tape
  output : w'.output = w.output
  size : w.heap.size ≤ w'.heap.size
  block : ∀ b, b < w.heap.size → v.ownBlock ≠ some b → w'.heap[b]? = w.heap[b]?

theorem SS.block {B : Nat} {w : World} {v : Value} {l : List ByteArray} (h : SS B w v l) {g : Nat} (hg : v.ownBlock = some g) : B ≤ g ∧ g < w.heap.size := by
  rcases h.2 with ⟨rfl, _⟩ | ⟨k, cap, cur, rfl, hb, hh, _⟩
  · cases hg
  · cases hg
    refine ⟨hb, ?_⟩
    rcases Nat.lt_or_ge k w.heap.size with h1 | h1
    · exact h1
    · rw [Array.getElem?_eq_none h1] at hh; cases hh
theorem SS.same {B : Nat} {w w' : World} {v : Value} {l : List ByteArray} (h : SS B w v l) (hb : ∀ g, v.ownBlock = some g → w'.heap[g]? = w.heap[g]?) : SS B w' v l := by
  refine ⟨h.1, ?_⟩
  rcases h.2 with hn | ⟨k, cap, cur, rfl, hg, hh, hr⟩
  · exact .inl hn
  · exact .inr ⟨k, cap, cur, rfl, hg, (hb k rfl).trans hh, hr⟩
theorem SS.nil (B : Nat) (w : World) : SS B w (.slice none 0 0) [] := World.ownsRow_nil _ _ _ _
theorem SS.new (w : World) (s : ByteArray) : SS w.heap.size (w.alloc (.cells #[.string s] 9)) (.slice (some ⟨w.heap.size, 0, none⟩) 1 1) [s] :=
  ⟨rfl, .inr ⟨w.heap.size, 1, #[.string s], rfl, Nat.le_refl _, heap_alloc_new _ _, Nat.le_refl _, by decide, rfl, rfl⟩⟩
theorem SS.mono {B B' : Nat} {w : World} {v : Value} {l : List ByteArray} (h : SS B w v l) (hB : B' ≤ B) : SS B' w v l := by
  refine ⟨h.1, ?_⟩
  rcases h.2 with hn | ⟨k, cap, cur, rfl, hg, hh, hr⟩
  · exact .inl hn
  · exact .inr ⟨k, cap, cur, rfl, Nat.le_trans hB hg, hh, hr⟩
/-- A row that is not empty, cell by cell. -/
theorem SS.cells {B : Nat} {w : World} {v : Value} {l : List ByteArray} (h : SS B w v l) (h0 : 0 < l.length) : ∃ g cap, v = .slice (some ⟨g, 0, none⟩) l.length cap ∧ l.length ≤ cap ∧ cap ≤ maxLen ∧ B ≤ g ∧ g < w.heap.size ∧ ∀ j u, l[j]? = some u → w.cell? ⟨g, 0 + j, none⟩ = some (.string u) := by
  have hb := h
  rcases h.2 with ⟨_, hn⟩ | ⟨g, cap, cur, rfl, hg, hh, h1, h2, h3, h4⟩
  · omega
  · refine ⟨g, cap, rfl, h1, h2, hg, (SS.block hb rfl).2, fun j u hj => ?_⟩
    have hjl := (List.getElem?_eq_some_iff.1 hj).1
    rw [Lib.cell_of_heap hh, Nat.zero_add, ← Array.getElem?_toList]
    have e : (cur.toList.take (l.length * 1))[j]? = some (.string u) := by rw [h4, List.getElem?_map, hj]; rfl
    rw [List.getElem?_take, if_pos (by omega)] at e
    exact e
theorem SS.src {B : Nat} {w : World} {g n cap : Nat} {l : List ByteArray} (h : SS B w (.slice (some ⟨g, 0, none⟩) n cap) l) (k c : Nat) (hk : k ≤ l.length) (m : Nat) (hm : m = l.length - k) : Src w (.slice (some ⟨g, k, none⟩) m c) (l.drop k) := by
  refine ⟨_, c, by rw [List.length_drop, hm], fun h0 => ?_⟩
  obtain ⟨g', cap', e, _, _, _, _, hc⟩ := h.cells (by simp at h0; omega)
  cases e
  refine ⟨g, k, rfl, fun j u hj => ?_⟩
  rw [List.getElem?_drop] at hj
  have := hc (k + j) u hj
  rw [Nat.zero_add] at this
  exact this
theorem Src.new (w : World) (s : ByteArray) : Src (w.alloc (.cells #[.string s] 9)) (.slice (some ⟨w.heap.size, 0, none⟩) 1 1) [s] :=
  ⟨_, 1, rfl, fun _ => ⟨w.heap.size, 0, rfl, fun j u hj => by
    cases j with
    | zero => cases hj; simp
    | succ j => simp at hj⟩⟩
theorem Src.none (w : World) (p : Option Addr) (c : Nat) : Src w (.slice p 0 c) [] := ⟨p, c, rfl, fun h => by simp at h⟩
theorem Fr.refl (v : Value) (w : World) : Fr v w w := ⟨rfl, rfl, rfl, Nat.le_refl _, fun _ _ _ => rfl⟩
theorem Fr.below {v : Value} {w w' : World} {B : Nat} {l : List ByteArray} (h : Fr v w w') (hv : SS B w v l) (hB : B ≤ w.heap.size) : Below B w w' :=
  ⟨h.os, h.tape, h.output, h.size, fun b hb => h.block b (by omega) (fun e => by have := (hv.block e).1; omega)⟩
theorem SS.other {B : Nat} {w w' : World} {v u : Value} {l : List ByteArray} (h : SS B w v l) (hf : Fr u w w') (hne : ∀ g, v.ownBlock = some g → u.ownBlock ≠ some g) : SS B w' v l :=
  h.same fun g hg => hf.block g (h.block hg).2 (hne g hg)
theorem SS.below {B B' : Nat} {w w' : World} {v : Value} {l : List ByteArray} (h : SS B w v l) (hb : Below B' w w') (hB : w.heap.size ≤ B') : SS B w' v l :=
  h.same fun g hg => hb.block g (by have := (h.block hg).2; omega)

/-- append. -/
theorem wpList_append_s {ops : Array Oper} {rest : List Oper} {o : Oper} {a : Act} {Q : Exit → Act → World → Prop} (w : World) (hgd : o.guard = none) (s x : Operand)
    (hop : o.op = Op.call { callee := Callee.builtin Builtin.append, args := #[s, x], argTypes := #[33, 33] })
    (B : Nat) (v : Value) (l : List ByteArray) (hs : a.eval s = v) (hown : SS B w v l) (hB : B ≤ w.heap.size)
    (xv : Value) (r : List ByteArray) (hx : a.eval x = xv) (hr : Src w xv r) (hlen : l.length + r.length ≤ 1000) (hsome : 0 < l.length + r.length)
    (h : ∀ v' w', SS B w' v' (l ++ r) → Fr v w w' → (v.ownBlock = v'.ownBlock ∨ v'.ownBlock = some w.heap.size) → wpList Tryd.prog ops Q rest (a.put o.dst v') w') : wpList Tryd.prog ops Q (o :: rest) a w := by
  obtain ⟨i0, hi0, hz'⟩ := Option.map_eq_some_iff.1 Tryd.infoStr
  simp only [Prod.mk.injEq] at hz'
  obtain ⟨hz0, hz1, hz2⟩ := hz'
  obtain ⟨p, c, rfl, hp⟩ := hr
  by_cases h0 : 0 < r.length
  · obtain ⟨g, off, rfl, hc⟩ := hp h0
    refine wpList_append_lies w hgd s x 33 hop B 9 i0 _ 1 16 Tryd.underlying33 hi0 hz0 hz1 hz2 rfl (by decide) v l.length (l.map Value.string) hs hown ⟨g, off, none⟩ r.length c (r.map Value.string) hx (by simp) (fun j u hj => ?_) (fun u hu => ?_) h0 (by unfold maxLen; omega) (by omega) hB _ rfl ?_
    · rw [Addr.add_lit]
      rw [List.getElem?_map] at hj
      cases hrj : r[j]? with
      | none => rw [hrj] at hj; cases hj
      | some b => rw [hrj] at hj; cases hj; exact hc j b hrj
    · obtain ⟨b, _, rfl⟩ := List.mem_map.1 hu
      rfl
    · intro g' cap w' h1 h2 h3 h4
      refine h _ w' ?_ ⟨h2.os, h2.tape, h2.output, h2.size, fun b hb hn => h2.block b hb (fun e => hn e.symm)⟩ ?_
      · unfold SS
        rw [List.length_append, List.map_append]
        exact h1
      · rcases h3 with h3 | h3
        · exact .inl (by rw [h3]; rfl)
        · exact .inr (by rw [← h3]; rfl)
  · have hr0 : r = [] := List.length_eq_zero_iff.1 (by omega)
    subst hr0
    obtain ⟨g, cap, rfl, h1, _⟩ := hown.cells (by simpa using hsome)
    refine wpList_plain hgd fun K hK' => ?_
    have hrun : (Builtin.append_ #[33, 33] o.type #[.slice (some ⟨g, 0, none⟩) l.length cap, .slice p 0 c]).run Tryd.prog w = .ok (.slice (some ⟨g, 0, none⟩) l.length cap) w := by
      cases p with
      | none => simp [Builtin.append_, run_underlying Tryd.underlying33, sizeOf, typeInfo, hi0, Builtin.lenOf, Builtin.firstCells, h1, storeCells]
      | some p => simp [Builtin.append_, run_underlying Tryd.underlying33, sizeOf, typeInfo, hi0, Builtin.lenOf, Builtin.firstCells, h1, storeCells, loadCells, loadCellsFrom]
    unfold Oper.wp
    simp [execOp, hop, resolve, invoke, builtin, hs, hx, hrun, Result.andThen]
    exact hK' _ _ (h _ w (by simpa using hown) (Fr.refl _ _) (.inl rfl))
end Go.Proofs.YtebohmcbeacdkaaDoor
