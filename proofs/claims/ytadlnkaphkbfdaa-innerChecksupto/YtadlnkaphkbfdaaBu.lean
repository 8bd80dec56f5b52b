/-
  Operations out of a reading, with what the bound gives of their lists.
-/
import Derived.Test.YtadlnkaphkbfdaaSr
namespace Go.Proofs.Ytadlnkaphkbfdaa
set_option linter.unusedVariables false
set_option linter.unusedSimpArgs false
open Go.RowKit

theorem bulk_part {H : Type} {d : DataW H} {l : List (DataW H)} (h : d ∈ l) : Rows.uptoBulk d ≤ Rows.uptoBulkAll l := by
  induction l with
  | nil => cases h
  | cons x r ih =>
    simp only [Rows.uptoBulkAll]
    rcases List.mem_cons.1 h with e | e
    · subst e; omega
    · have := ih e; omega
section
variable {H : Type} {enc : TypeId × Value → H} {P : Program} {w : World} {base : Nat} {spare : Nat → Bool} {held : Bool}
/-- A slice of elements of k cells, each of which can be read. -/
theorem rows_of_trod_b {α : Type} [Inhabited α] {t e : TypeId} {k bytes fuel : Nat} {R : List Value → α → Prop} {cs : List Value} {x : DataW H × List MemPlace}
    (ht : P.underlying t = some (.slice e)) (hk : P.cellsOf e = k) (hk0 : 0 < k) (hby : P.bytesOf e = bytes)
    (h : DataW.trod enc P w base spare held fuel t cs = some x) (hw : ∀ n ∈ x.1.weights P t, n ≤ reachBytes)
    (M : Nat) (hM : Rows.uptoBulk x.1 ≤ M) (he : ∀ (n : Nat) (cs' : List Value) (y : DataW H × List MemPlace), cs'.length = k → DataW.trod enc P w base spare held n e cs' = some y → (∀ n ∈ y.1.weights P e, n ≤ reachBytes) → Rows.uptoBulk y.1 ≤ M → ∃ a : α, R cs' a) :
    ∃ v l, cs = [v] ∧ RowsIn k bytes R Any w v l := by
  rcases Deep.open_slice ht h with ⟨rfl, rfl⟩ | ⟨a, len, cap, m, n, D, Pl, rfl, hb, hl, hm, hmm, rfl, hx⟩
  · exact ⟨_, [], rfl, none, 0, rfl, ⟨by simp, Nat.le_refl _⟩, fun h => by simp at h⟩
  · have hlm : len ≤ m := by rw [hmm]; split <;> omega
    rw [hk] at hx
    have key : ∀ i, i < len → ∃ q : α × List Value, q.2.length = k ∧ R q.2 q.1 ∧ ∀ j, j < k → w.cell? (a.add (i * k + j)) = q.2[j]? := fun i hi => by
      obtain ⟨cs', h1, h2⟩ := hx i (by omega)
      obtain ⟨_, hlen, hc⟩ := World.cells?_some h1
      obtain ⟨y, hy⟩ := he n cs' _ hlen h2 (fun q hq => hw q (by
        simp only [DataW.weights, ht, List.mem_cons, List.mem_append]
        exact Or.inr (Or.inl (weightsAll_mem (d := D i) (by simp; exact ⟨i, hi, rfl⟩) hq)))) (by
        have h9 : D i ∈ (List.range len).map D := by simp; exact ⟨i, hi, rfl⟩
        have h8 := bulk_part h9
        simp only [Rows.uptoBulk] at hM
        show Rows.uptoBulk (D i) ≤ M
        omega)
      exact ⟨(y, cs'), hlen, hy, fun j hj => by rw [← Deep.add_add]; exact hc j hj⟩
    obtain ⟨f, hf⟩ := Deep.choose_lt (α := α × List Value) key
    refine ⟨_, (List.range len).map (fun i => (f i).1), rfl, some a, cap, by simp, ⟨?_, by simpa using hl⟩, fun h0 => ?_⟩
    · have := hw ((len + (m - len)) * P.bytesOf e) (by simp [DataW.weights, ht])
      rw [hby] at this
      simp only [List.length_map, List.length_range]
      have h2 : len * bytes ≤ (len + (m - len)) * bytes := Nat.mul_le_mul_right _ (by omega)
      have h3 : reachBytes ≤ 140737488355328 := by decide
      omega
    · simp only [List.length_map, List.length_range] at h0
      obtain ⟨b, off, spot⟩ := a
      have hspot : spot = none := by
        obtain ⟨h1, _, h3⟩ := hf 0 h0
        have := h3 0 hk0
        rw [List.getElem?_eq_getElem (by omega)] at this
        simpa [Addr.add] using World.cell?_spot this
      subst hspot
      refine ⟨b, off, rfl, trivial, fun j hj => ?_⟩
      simp only [List.length_map, List.length_range] at hj
      obtain ⟨h1, h2, h3⟩ := hf j hj
      refine ⟨(f j).2, h1, ?_, fun i u hi => ?_⟩
      · simpa [List.getD, hj] using h2
      · have hik : i < k := by rw [← h1]; exact (List.getElem?_eq_some_iff.1 hi).1
        have := h3 i hik
        rw [Addr.add_lit, hi] at this
        simpa [Nat.add_assoc] using this
end
section
variable {H : Type} {enc : TypeId × Value → H} {w : World} {base : Nat} {spare : Nat → Bool} {held : Bool}
theorem ints_bulk {fuel : Nat} {a : Option Addr} {len cap : Nat} {x : DataW H × List MemPlace} (hf : DataW.trod enc Try.prog w base spare held fuel 26 [.slice a len cap] = some x) : len ≤ Rows.uptoBulk x.1 := by
  rcases Deep.open_slice Try.underlying26 hf with ⟨hcs, hx0⟩ | ⟨y, l, c, m, n, D, Pl, hcs, hb, hl, hm, hmm, hx0, hx⟩
  · simp at hcs
    obtain ⟨rfl, rfl, rfl⟩ := hcs
    exact Nat.zero_le _
  · simp at hcs
    obtain ⟨rfl, rfl, rfl⟩ := hcs
    rw [hx0]
    have := bulk_len ((List.range len).map D)
    simp only [Rows.uptoBulk]
    simp at this
    omega
set_option maxRecDepth 10000 in
/-- An operation's six cells. -/
theorem op_of_trod_b (n : Nat) (cs : List Value) (y : DataW H × List MemPlace) (hlen : cs.length = 6) (h : DataW.trod enc Try.prog w base spare held n 31 cs = some y) (hw : ∀ n ∈ y.1.weights Try.prog 31, n ≤ reachBytes) (M : Nat) (hM : Rows.uptoBulk y.1 ≤ M) :
    ∃ a : MOp, OpRow Any w cs a ∧ (OpFit a ∧ a.list.length ≤ M) := by
  obtain ⟨xs, m, rfl, rfl, _, hxl, hf⟩ := DataW.trod_struct Try.underlying31 h
  match cs, hlen with
  | [c0, c1, c2, c3, c4, c5], _ =>
    match xs, hxl with
    | [x0, x1, x2, x3, x4, x5], _ =>
      have f0 := hf 0 _ rfl
      have f1 := hf 1 _ rfl
      have f2 := hf 2 _ rfl
      have f3 := hf 3 _ rfl
      have f4 := hf 4 _ rfl
      have f5 := hf 5 _ rfl
      simp [Try.cells3, Try.cells4, Try.cells9, Try.cells26] at f0 f1 f2 f3 f4 f5
      obtain ⟨k, e0, _⟩ := DataW.trod_int Try.underlying3 f0
      obtain ⟨s, e1, g1, _⟩ := DataW.trod_string Try.underlying9 f1
      obtain ⟨v, e2, _, wv⟩ := DataW.trod_int Try.underlying3 f2
      obtain ⟨lv, l, e3, hl⟩ := ints_of_trod f3 (fun n hn => hw n (by
        simp only [DataW.weights, Try.underlying31]
        exact DataW.weights_mem_each (j := 3) rfl rfl n hn))
      have hks : s.size ≤ reachBytes := by
        have := hw s.data.toList.length (by
          simp only [DataW.weights, Try.underlying31]
          exact DataW.weights_mem_each (j := 1) rfl rfl _ (by rw [g1]; simp [DataW.weights, Try.underlying9]))
        rw [Array.length_toList] at this
        exact this
      obtain ⟨p, e4, _⟩ := DataW.trod_bool Try.underlying4 f4
      obtain ⟨q, e5, _⟩ := DataW.trod_bool Try.underlying4 f5
      simp at e0 e1 e2 e3 e4 e5
      subst e0 e1 e2 e3 e4 e5
      have hbl : l.length ≤ M := by
        obtain ⟨ao9, c9, e9, _⟩ := hl
        subst e9
        have h9 := ints_bulk f3
        have h8 := bulk_part (d := x3.1) (l := [x0.1, x1.1, x2.1, x3.1, x4.1, x5.1]) (by simp)
        simp only [Rows.uptoBulk, List.map] at hM
        omega
      have hll : l.length * 8 ≤ 140737488355328 := by obtain ⟨_, _, _, h, _⟩ := hl; exact h.1
      exact ⟨⟨k, s, v, l, p, q⟩, ⟨c3, rfl, hl⟩, ⟨Nat.le_trans hks (by decide), hll⟩, hbl⟩


theorem ops_of_trod_b {fuel : Nat} {cs : List Value} {x : DataW H × List MemPlace} (h : DataW.trod enc Try.prog w base spare held fuel 22 cs = some x) (hw : ∀ n ∈ x.1.weights Try.prog 22, n ≤ reachBytes) (M : Nat) (hM : Rows.uptoBulk x.1 ≤ M) :
    ∃ v l, cs = [v] ∧ OpsIn Any w v l ∧ ∀ o ∈ l, OpFit o ∧ o.list.length ≤ M := by
  obtain ⟨v, l, hv, hr⟩ := rows_of_trod_b (R := fun cs a => OpRow Any w cs a ∧ (OpFit a ∧ a.list.length ≤ M)) (k := 6) (bytes := 64) Try.underlying22 Try.cells31 (by omega) Try.bytes31 h hw M hM (fun n cs' y hlen hy hw' hM' => op_of_trod_b n cs' y hlen hy hw' M hM')
  obtain ⟨h1, h2⟩ := rows_all hr
  exact ⟨v, l, hv, h1, h2⟩
end
end Go.Proofs.Ytadlnkaphkbfdaa
