/-
  The document's keys, one by one; transactions within the bounds, out of Small.
-/
import Derived.Test.YtnfbcmnlloipiaaLg18
import Derived.Test.YtnfbcmnlloipiaaTb21l
import Derived.Test.YtnfbcmnlloipiaaTb9h
namespace Go.Proofs.Ytnfbcmnlloipiaa
set_option linter.unusedVariables false
set_option linter.unusedSimpArgs false
open Go.RowKit Go.Lib Go.Maps Go.Sort
open Tx (MTxn smallL cutTxn cutOp)

theorem kind_mem (N : List MN) (s : ByteArray) (h : kindN N s ≠ 0) : ∃ x ∈ N, x.2.2.key = s := by
  unfold kindN at h
  cases hf : N.find? (fun x => decide (x.2.2.key = s ∧ thing x.2.2.kind ≠ 0)) with
  | none => rw [hf] at h; exact absurd rfl h
  | some y =>
    have hd := List.find?_some hf
    exact ⟨y, List.mem_of_find?_eq_some hf, (of_decide_eq_true hd).1⟩
/-- A key of the document's row: a text that is not too long, of a kind. -/
theorem key_at {l : List MTxn} (hG : Good l) {B : Nat} {w : World} {g c : Nat} (h : SRow B w (.slice (some ⟨g, 0, none⟩) (keysN (notes l l.length) []).length c) (keysN (notes l l.length) [])) (q : Nat) (hq : q < (keysN (notes l l.length) []).length) : ∃ s : ByteArray, w.cell? ⟨g, q, none⟩ = some (.string s) ∧ s.size ≤ maxLen ∧ kindN (notes l l.length) s ≠ 0 := by
  obtain ⟨s, h1, h2⟩ := str_of ((keysN (notes l l.length) []).getD q default)
  have hm : s.data.toList ∈ keysN (notes l l.length) [] := by
    rw [h2]
    simp [List.getD, List.getElem?_eq_getElem hq]
  have hk := ((keysN_is (notes l l.length)).2 s).1 hm
  obtain ⟨x, hx, e⟩ := kind_mem _ s hk
  obtain ⟨t, ht, ho⟩ := notes_op hx
  have hs := (hG.ok t ht _ ho).1
  rw [e] at hs
  exact ⟨s, (srow_cell h q hq).trans (by rw [h1]), Nat.le_trans hs (by unfold maxLen; omega), hk⟩
theorem small_list {l : List MTxn} (hl : ∀ t ∈ l, ∀ o ∈ t.ops, ∀ x ∈ o.list, (Lit.int .i64 x).wf = true) {t : MTxn} (h : t ∈ smallL l) : ∀ o ∈ t.ops, (∀ x ∈ o.list, (Lit.int .i64 x).wf = true) ∧ o.list.length ≤ 100000 := by
  obtain ⟨t0, h0, rfl⟩ := small_mem h
  intro o ho
  have ho' : o ∈ (t0.ops.take 10).map cutOp := ho
  obtain ⟨o0, h1, rfl⟩ := List.mem_map.1 ho'
  refine ⟨fun x hx => ?_, ?_⟩
  · have hx' : x ∈ o0.list.take 40 := hx
    exact hl t0 h0 o0 (List.mem_of_mem_take h1) x (List.mem_of_mem_take hx')
  · show (o0.list.take 40).length ≤ _
    rw [List.length_take]
    omega
theorem small_good {l : List MTxn} (hok : ∀ t ∈ l, ∀ o ∈ t.ops, OpOk o) (hl : ∀ t ∈ l, ∀ o ∈ t.ops, ∀ x ∈ o.list, (Lit.int .i64 x).wf = true) : Good (smallL l) :=
  ⟨Nat.le_trans (small_len l) (by omega), fun t h => small_ten h, fun t h => small_ok hok h, fun t h o ho => (small_list hl h o ho).1, fun t h o ho => (small_list hl h o ho).2⟩
theorem Good.more {l : List MTxn} (h : Good l) {x : MTxn} (hx : x ∈ l) (hl : l.length ≤ 999) : Good (l ++ [x]) := by
  have mem : ∀ t, t ∈ l ++ [x] → t ∈ l := fun t ht => by
    rcases List.mem_append.1 ht with h | h
    · exact h
    · obtain rfl : t = x := by simpa using h
      exact hx
  exact ⟨by simp; omega, fun t ht => h.ten t (mem t ht), fun t ht => h.ok t (mem t ht), fun t ht => h.wl t (mem t ht), fun t ht => h.sz t (mem t ht)⟩
end Go.Proofs.Ytnfbcmnlloipiaa
