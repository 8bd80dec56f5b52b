/-
  Clones of dependencies.
-/
import Derived.Test.YtampofijmepjjaaRs6
import Derived.Test.YtampofijmepjjaaRs7a
namespace Go.Proofs.Ytampofijmepjjaa
set_option linter.unusedVariables false
set_option linter.unusedSimpArgs false
open Go.RowKit Go.Lib
open Tx (RowsIn.cells RowCells info_parts flatten_len flatten_get cloneInts_any)

theorem blt {w : World} {b : Nat} {o : Obj} (h : w.heap[b]? = some o) : b < w.heap.size := (Array.getElem?_eq_some_iff.1 h).1
/-- The rows of a slice, one by one. -/
theorem rows_pick {α : Type} [Inhabited α] {k : Nat} {R : List Value → α → Prop} {w : World} {ao : Option Addr} {l : List α} (h : RowCells k R w ao l l.length) :
    ∃ rows : List (List Value), rows.length = l.length ∧ (∀ r ∈ rows, r.length = k) ∧ ∀ j, j < l.length → R (rows.getD j []) (l.getD j default) ∧ ∃ b o, ao = some ⟨b, o, none⟩ ∧ b < w.heap.size ∧ ∀ i u, (rows.getD j [])[i]? = some u → w.cell? ⟨b, o + j * k + i, none⟩ = some u := by
  have ex : ∀ j, ∃ cs : List Value, j < l.length → cs.length = k ∧ R cs (l.getD j default) ∧ ∃ b o, ao = some ⟨b, o, none⟩ ∧ b < w.heap.size ∧ ∀ i u, cs[i]? = some u → w.cell? ⟨b, o + j * k + i, none⟩ = some u := fun j => by
    by_cases hj : j < l.length
    · obtain ⟨b, o, cs, h1, h2, h3, h4, h5⟩ := h j hj
      exact ⟨cs, fun _ => ⟨h3, h4, b, o, h1, h2, h5⟩⟩
    · exact ⟨[], fun c => absurd c hj⟩
  obtain ⟨f, hf⟩ := Classical.skolem.1 ex
  have e : ∀ j, j < l.length → ((List.range l.length).map f).getD j [] = f j := fun j hj => by simp [List.getD, hj]
  refine ⟨(List.range l.length).map f, by simp, fun r hr => ?_, fun j hj => ?_⟩
  · obtain ⟨j, hj, rfl⟩ := List.mem_map.1 hr
    exact (hf j (by simpa using hj)).1
  · rw [e j hj]
    exact (hf j hj).2
/-- Rows in a block of their own. -/
def Rows1 {α : Type} [Inhabited α] (k e : Nat) (R : List Value → α → Prop) (B : Nat) (w : World) (v : Value) (l : List α) : Prop :=
  ∃ rows : List (List Value), rows.length = l.length ∧ (∀ r ∈ rows, r.length = k) ∧ (∀ j, j < l.length → R (rows.getD j []) (l.getD j default)) ∧ w.ownsRow B e k v l.length rows.flatten
theorem Rows1.cell {α : Type} [Inhabited α] {k e : Nat} {R : List Value → α → Prop} {B : Nat} {w : World} {v : Value} {l : List α} (h : Rows1 k e R B w v l) (h0 : 0 < l.length) :
    ∃ g c, v = .slice (some ⟨g, 0, none⟩) l.length c ∧ l.length ≤ c ∧ B ≤ g ∧ g < w.heap.size ∧ (∃ cs, w.heap[g]? = some (.cells cs e (0, 0))) ∧ ∀ j, j < l.length → ∃ cs : List Value, cs.length = k ∧ R cs (l.getD j default) ∧ ∀ i u, cs[i]? = some u → w.cell? ⟨g, j * k + i, none⟩ = some u := by
  obtain ⟨rows, h1, h2, h3, h4⟩ := h
  have h4' := h4
  rcases h4.2 with ⟨hv, hn⟩ | ⟨g, cap, cur, hv, hB, hh, hc, _⟩
  · omega
  · subst hv
    refine ⟨g, cap, rfl, hc, hB, blt hh, ⟨_, hh⟩, fun j hj => ⟨rows.getD j [], ?_, h3 j hj, fun i u hi => ?_⟩⟩
    · exact h2 _ (by simp [List.getD, List.getElem?_eq_getElem (show j < rows.length by omega)])
    · have hil : i < k := by
        rw [← h2 _ (show rows.getD j [] ∈ rows by simp [List.getD, List.getElem?_eq_getElem (show j < rows.length by omega)])]
        exact (List.getElem?_eq_some_iff.1 hi).1
      have := h4'.cells (g := g) rfl (j * k + i) u (by rw [flatten_get k rows j i h2 (by omega) hil]; exact hi)
      rw [Addr.add_lit] at this
      simpa using this
theorem Try.infoWhy : (Try.prog.info? 32).map (fun i => (i.zero, i.size, i.bytes)) = some (some (.agg #[.int .i64 0, .int .i64 0, .int .i64 0, .string ByteArray.empty, .int .i64 0, .int .i64 0, .bool false, .bool false]), 8, 64) := by kernel_rfl
theorem cloneW_nil (n c : Nat) (w : World) :
    Calls Try.prog 5 #[.slice none n c] w fun e w' => e = .returned (.slice none 0 0) ∧ w' = w := by
  have q22 : ∀ (w : World) (a : Option Addr) (n c n' c' : Nat), (binOp .eql 27 (.slice a n c) (.slice none n' c')).run Try.prog w = .ok (.bool a.isNone) w := fun w a n c n' c' => Lib.run_eql_slice_nil w _ _ a n c n' c' Try.underlying27
  go_enter Try.func5, Try.ntmps5
  go_wp2
  go_ret
  exact ⟨rfl, rfl⟩
set_option maxHeartbeats 2000000 in
set_option maxRecDepth 100000 in
theorem cloneW_some (ad : Addr) (n c : Nat) (xs : List Value) (w : World) (hx : xs.length = n * 8) (hbig : n * 64 ≤ 140737488355328) (hone : ∀ u ∈ xs, u.oneCell' = true) (hc : ∀ j u, xs[j]? = some u → w.cell? (ad.add j) = some u) :
    Calls Try.prog 5 #[.slice (some ad) n c] w fun e w' => ∃ v', e = .returned v' ∧ w'.ownsRow w.heap.size 32 8 v' n xs ∧ Below w.heap.size w w' := by
  obtain ⟨i0, hi, hz0, hz1, hz2⟩ := info_parts Try.infoWhy
  have q22 : ∀ (w : World) (a : Option Addr) (n c n' c' : Nat), (binOp .eql 27 (.slice a n c) (.slice none n' c')).run Try.prog w = .ok (.bool a.isNone) w := fun w a n c n' c' => Lib.run_eql_slice_nil w _ _ a n c n' c' Try.underlying27
  have A := hid hc
  have O := hid hone
  clear hc hone
  go_enter Try.func5, Try.ntmps5
  go_wp2_with (at_builtin; refine wpList_append_own _ rfl _ _ 27 rfl w.heap.size 32 i0 _ 8 64 Try.underlying27 hi hz0 hz1 hz2 rfl (by decide) _ _ _ rfl (World.ownsRow_made w #[] 0 (Nat.le_refl _) (Nat.zero_le _) rfl) ad n c xs rfl ?qc1 ?qc2 ?qc3 ?qc4 ?qc5 ?qc6 ?_)
  case qc1 => exact hx
  case qc2 => exact fun j u hj => Lib.cell?_alloc_some _ (A.out j u hj)
  case qc3 => exact O.out
  case qc4 => unfold maxLen; omega
  case qc5 => omega
  case qc6 => simp
  intro v' w1 hown hgrow hnil
  go_wp2
  go_ret
  refine ⟨v', rfl, by simpa using hown, ?_⟩
  exact ((Below.refl _ w).alloc (Nat.le_refl _) _).grown hgrow (by simp) (by intro k hk; simp [Value.ownBlock] at hk; omega)
/-- slices.Clone hands the same rows back, in a block of their own. -/
theorem cloneW_any {α : Type} [Inhabited α] {R : List Value → α → Prop} {S : Nat → Prop} (v : Value) (l : List α) (w : World) (h : RowsIn 8 64 R S w v l) (hone : ∀ cs x, R cs x → ∀ u ∈ cs, u.oneCell' = true) :
    Calls Try.prog 5 #[v] w fun e w' => ∃ v', e = .returned v' ∧ Rows1 8 32 R w.heap.size w' v' l ∧ Below w.heap.size w w' := by
  obtain ⟨ao, c, rfl, hl, hc⟩ := RowsIn.cells h (by omega)
  obtain ⟨rows, r1, r2, r3⟩ := rows_pick hc
  cases ao with
  | none =>
    have h0 : l.length = 0 := by
      by_cases h : 0 < l.length
      · obtain ⟨_, b, o, ha, _⟩ := r3 0 h; cases ha
      · omega
    refine (cloneW_nil _ c w).mono fun e w' ⟨he, hw⟩ => ⟨_, he, ⟨rows, r1, r2, fun j hj => (r3 j hj).1, ?_⟩, by rw [hw]; exact Below.refl _ _⟩
    have e0 : rows = [] := List.length_eq_zero_iff.1 (by omega)
    rw [e0, h0]
    exact World.ownsRow_nil _ _ _ _
  | some ad =>
    refine (cloneW_some ad l.length c rows.flatten w (by rw [flatten_len 8 rows r2, r1]) hl.1 (fun u hu => ?_) (fun j u hj => ?_)).mono fun e w' ⟨v', he, hown, hb⟩ => ⟨v', he, ⟨rows, r1, r2, fun j hj => (r3 j hj).1, hown⟩, hb⟩
    · obtain ⟨r, hr, hu2⟩ := List.mem_flatten.1 hu
      obtain ⟨j, hj, e⟩ := List.mem_iff_getElem.1 hr
      have e2 : rows.getD j [] = r := by simp [List.getD, List.getElem?_eq_getElem hj, e]
      exact hone _ _ (by have := (r3 j (by omega)).1; rw [e2] at this; exact this) u hu2
    · have hjl : j < rows.flatten.length := (List.getElem?_eq_some_iff.1 hj).1
      rw [flatten_len 8 rows r2, r1] at hjl
      have hd : j / 8 < l.length := by omega
      have hm : j % 8 < 8 := Nat.mod_lt _ (by decide)
      have ej : j / 8 * 8 + j % 8 = j := by omega
      obtain ⟨_, b, o, ha, _, hcell⟩ := r3 (j / 8) hd
      rw [← ej, flatten_get 8 rows _ _ r2 (by omega) hm] at hj
      cases ha
      have := hcell (j % 8) u hj
      rw [Addr.add_lit]
      rw [← this]
      congr 2
      omega

theorem encW_one (x : MW) : ∀ u ∈ encW x, u.oneCell' = true := fun u hu => by
  simp only [encW, List.mem_cons, List.not_mem_nil, or_false] at hu
  rcases hu with rfl | rfl | rfl | rfl | rfl | rfl | rfl | rfl <;> rfl
/-- slices.Clone of dependencies. -/
theorem cloneWhy_any (v : Value) (l : List MW) (w : World) (h : WhysIn w v l) :
    Calls Try.prog 5 #[v] w fun e w' => ∃ v', e = .returned v' ∧ WhysIn w' v' l ∧ Below w.heap.size w w' := by
  have hl : l.length * 64 ≤ 140737488355328 := by obtain ⟨_, _, _, h, _⟩ := h; exact h.1
  refine (cloneW_any v l w h (fun cs x e => by rw [e]; exact encW_one x)).mono fun e w' ⟨v', he, hr, hb⟩ => ⟨v', he, ?_, hb⟩
  by_cases h0 : 0 < l.length
  · obtain ⟨g, c, hv, hc, _, _, _, hj⟩ := hr.cell h0
    exact ⟨_, c, hv, ⟨hl, hc⟩, fun _ => ⟨g, 0, rfl, trivial, fun j hlt => by
      obtain ⟨cs, q1, q2, q3⟩ := hj j hlt
      exact ⟨cs, q1, q2, fun i u hi => by rw [Nat.zero_add]; exact q3 i u hi⟩⟩⟩
  · obtain ⟨rows, r1, r2, r3, r4⟩ := hr
    have e0 : l.length = 0 := by omega
    rcases r4.2 with ⟨hv, hn⟩ | ⟨g, cap, cur, hv, hB, hh, hc, _⟩
    · exact ⟨none, 0, by rw [hv, e0], ⟨hl, by omega⟩, fun h => absurd h h0⟩
    · exact ⟨_, cap, hv, ⟨hl, hc⟩, fun h => absurd h h0⟩
end Go.Proofs.Ytampofijmepjjaa
