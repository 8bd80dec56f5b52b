/-
  Apply: operations, one behind the other.
-/
import Derived.Test.YtjeheknhpfkaiaaDoorM5
import Derived.Deep.RegionLaw
namespace Go.Proofs.YtjeheknhpfkaiaaDoor
set_option linter.unusedVariables false
set_option linter.unusedSimpArgs false
open Go.RowKit Go.Lib Go.Maps

/-- The six cells of each operation of a slice; where its list lies. -/
def OpCells (w : World) (ao : Option Addr) (l : List MOp) (n : Nat) (lv : Nat → Value) (P : Nat → Prop) : Prop :=
  ∀ j, j < n → ∃ b off, ao = some ⟨b, off, none⟩ ∧ P b ∧ w.cell? ⟨b, off + j * 6, none⟩ = some (.int .i64 (l.getD j default).kind) ∧ w.cell? ⟨b, off + j * 6 + 1, none⟩ = some (.string (l.getD j default).key) ∧ w.cell? ⟨b, off + j * 6 + 2, none⟩ = some (.int .i64 (l.getD j default).value) ∧
    w.cell? ⟨b, off + j * 6 + 3, none⟩ = some (lv j) ∧ w.cell? ⟨b, off + j * 6 + 4, none⟩ = some (.bool (l.getD j default).has) ∧ w.cell? ⟨b, off + j * 6 + 5, none⟩ = some (.bool (l.getD j default).nl)
theorem OpCells.keep {w w' : World} {ao : Option Addr} {l : List MOp} {n : Nat} {lv : Nat → Value} {P : Nat → Prop} (h : OpCells w ao l n lv P) (hk : ∀ b, P b → w'.heap[b]? = w.heap[b]?) : OpCells w' ao l n lv P := fun j hj => by
  obtain ⟨b, off, ha, hp, c0, c1, c2, c3, c4, c5⟩ := h j hj
  have q : ∀ i v, w.cell? ⟨b, i, none⟩ = some v → w'.cell? ⟨b, i, none⟩ = some v := fun i v hc => (World.cell?_of_block (a := ⟨b, i, none⟩) (hk b hp)).trans hc
  exact ⟨b, off, ha, hp, q _ _ c0, q _ _ c1, q _ _ c2, q _ _ c3, q _ _ c4, q _ _ c5⟩
/-- Operations in memory, by their cells. -/
theorem ops_cells {S : Nat → Prop} {w : World} {v : Value} {l : List MOp} (h : OpsIn S w v l) : ∃ ao c lv, v = .slice ao l.length c ∧ (l.length * 64 ≤ 140737488355328 ∧ l.length ≤ c) ∧ OpCells w ao l l.length lv (fun b => b < w.heap.size ∧ S b) ∧ ∀ j, j < l.length → IntsIn S w (lv j) (l.getD j default).list := by
  obtain ⟨ao, c, hv, hl, hc⟩ := h
  have key : ∀ j, j < l.length → ∃ lv, (∃ b off, ao = some ⟨b, off, none⟩ ∧ (b < w.heap.size ∧ S b) ∧ w.cell? ⟨b, off + j * 6, none⟩ = some (.int .i64 (l.getD j default).kind) ∧ w.cell? ⟨b, off + j * 6 + 1, none⟩ = some (.string (l.getD j default).key) ∧ w.cell? ⟨b, off + j * 6 + 2, none⟩ = some (.int .i64 (l.getD j default).value) ∧
      w.cell? ⟨b, off + j * 6 + 3, none⟩ = some lv ∧ w.cell? ⟨b, off + j * 6 + 4, none⟩ = some (.bool (l.getD j default).has) ∧ w.cell? ⟨b, off + j * 6 + 5, none⟩ = some (.bool (l.getD j default).nl)) ∧ IntsIn S w lv (l.getD j default).list := fun j hj => by
    obtain ⟨b, off, ha, hs, hcc⟩ := hc (by omega)
    obtain ⟨cs, _, ⟨lv, rfl, hi⟩, k⟩ := hcc j hj
    exact ⟨lv, ⟨b, off, ha, ⟨World.block_lt_of_cell? _ _ (k 0 _ rfl), hs⟩, k 0 _ rfl, k 1 _ rfl, k 2 _ rfl, k 3 _ rfl, k 4 _ rfl, k 5 _ rfl⟩, hi⟩
  have ex : ∀ j, ∃ lv, j < l.length → ((∃ b off, ao = some ⟨b, off, none⟩ ∧ (b < w.heap.size ∧ S b) ∧ w.cell? ⟨b, off + j * 6, none⟩ = some (.int .i64 (l.getD j default).kind) ∧ w.cell? ⟨b, off + j * 6 + 1, none⟩ = some (.string (l.getD j default).key) ∧ w.cell? ⟨b, off + j * 6 + 2, none⟩ = some (.int .i64 (l.getD j default).value) ∧
      w.cell? ⟨b, off + j * 6 + 3, none⟩ = some lv ∧ w.cell? ⟨b, off + j * 6 + 4, none⟩ = some (.bool (l.getD j default).has) ∧ w.cell? ⟨b, off + j * 6 + 5, none⟩ = some (.bool (l.getD j default).nl)) ∧ IntsIn S w lv (l.getD j default).list) := fun j => by
    by_cases hj : j < l.length
    · obtain ⟨lv, h⟩ := key j hj
      exact ⟨lv, fun _ => h⟩
    · exact ⟨.nilFunc, fun c => absurd c hj⟩
  obtain ⟨lv, hlv⟩ := Classical.skolem.1 ex
  exact ⟨ao, c, lv, hv, hl, fun j hj => (hlv j hj).1, fun j hj => (hlv j hj).2⟩
/-- The registers of each operation's key, ahead of it. -/
def OldRow (w : World) (a : Option Addr) (L l : List MOp) (i : Nat) (P : Nat → Prop) : Prop :=
  ∀ j, j < i → ∃ b off, a = some ⟨b, off, none⟩ ∧ P b ∧ w.cell? ⟨b, off + j * 2, none⟩ = some (.int .i64 (rgV (regM (stM L l j) (l.getD j default).key))) ∧ w.cell? ⟨b, off + j * 2 + 1, none⟩ = some (.bool (regM (stM L l j) (l.getD j default).key).isSome)
theorem OldRow.keep {w w' : World} {a : Option Addr} {L l : List MOp} {i : Nat} {P : Nat → Prop} (h : OldRow w a L l i P) (hk : ∀ b, P b → w'.heap[b]? = w.heap[b]?) : OldRow w' a L l i P := fun j hj => by
  obtain ⟨b, off, ha, hp, c0, c1⟩ := h j hj
  have q : ∀ i v, w.cell? ⟨b, i, none⟩ = some v → w'.cell? ⟨b, i, none⟩ = some v := fun i v hc => (World.cell?_of_block (a := ⟨b, i, none⟩) (hk b hp)).trans hc
  exact ⟨b, off, ha, hp, q _ _ c0, q _ _ c1⟩
/-- The same as values, one behind the other. -/
def oldV (L l : List MOp) : Nat → List Value
  | 0 => []
  | k + 1 => oldV L l k ++ [.int .i64 (rgV (regM (stM L l k) (l.getD k default).key)), .bool (regM (stM L l k) (l.getD k default).key).isSome]
theorem oldV_len (L l : List MOp) : ∀ k, (oldV L l k).length = k * 2
  | 0 => rfl
  | k + 1 => by
    rw [oldV, List.length_append, oldV_len L l k]
    simp
    omega
theorem oldV_at (L l : List MOp) : ∀ k j, j < k → (oldV L l k)[j * 2]? = some (.int .i64 (rgV (regM (stM L l j) (l.getD j default).key))) ∧ (oldV L l k)[j * 2 + 1]? = some (.bool (regM (stM L l j) (l.getD j default).key).isSome)
  | 0, j, h => absurd h (Nat.not_lt_zero _)
  | k + 1, j, h => by
    have hl := oldV_len L l k
    rw [oldV]
    by_cases e : j = k
    · subst e
      rw [List.getElem?_append_right (by omega), List.getElem?_append_right (by omega), hl]
      have h1 : j * 2 - j * 2 = 0 := by omega
      have h2 : j * 2 + 1 - j * 2 = 1 := by omega
      rw [h1, h2]
      exact ⟨rfl, rfl⟩
    · rw [List.getElem?_append_left (by omega), List.getElem?_append_left (by omega)]
      exact oldV_at L l k j (by omega)
theorem old_row {B : Nat} {w : World} {v : Value} {L l : List MOp} {k : Nat} {P : Nat → Prop} (h : w.ownsRow B 54 2 v k (oldV L l k)) (hP : ∀ g, v.ownBlock = some g → P g) : ∃ a c, v = .slice a k c ∧ k ≤ c ∧ OldRow w a L l k P := by
  rcases h.2 with ⟨hv, hn⟩ | ⟨g, cap, cur, hv, hB, hh, h1, _⟩
  · exact ⟨none, 0, by rw [hv, hn], by omega, fun j hj => by omega⟩
  · refine ⟨_, cap, hv, h1, fun j hj => ⟨g, 0, rfl, hP g (by rw [hv]; rfl), ?_, ?_⟩⟩
    · subst hv
      rw [Nat.zero_add, World.ownsRow.cellAt h (j * 2) (by omega)]
      exact (oldV_at L l k j hj).1
    · subst hv
      rw [Nat.zero_add, World.ownsRow.cellAt h (j * 2 + 1) (by omega)]
      exact (oldV_at L l k j hj).2
theorem own_mono {B B' : Nat} {w : World} {e : TypeId} {z n : Nat} {v : Value} {xs : List Value} (h : w.ownsRow B e z v n xs) (hB : B' ≤ B) : w.ownsRow B' e z v n xs := by
  refine ⟨h.1, ?_⟩
  rcases h.2 with h1 | ⟨g, cap, cur, hv, hg, hh, hr⟩
  · exact .inl h1
  · exact .inr ⟨g, cap, cur, hv, Nat.le_trans hB hg, hh, hr⟩
/-- What undo does. -/
def UndoIs : Prop := ∀ (B : Nat) (w : World) (sb lb rb : Nat) (F : Nat → Prop) (n : Nat) (L l : List MOp) (i : Nat) (a : Option Addr) (cap : Nat) (lv : Nat → Value) (ro : Option Addr) (rc : Nat), St B w sb lb rb F n (stM L l i) → B ≤ w.heap.size → i ≤ l.length →
    i * 64 ≤ 140737488355328 → i ≤ cap → i ≤ rc → (∀ j, j < i → ∃ a n c, lv j = .slice a n c) → OpCells w a l i lv (fun b => b < w.heap.size ∧ ¬ F b) → OldRow w ro L l i (fun b => b < w.heap.size ∧ ¬ F b) → (∀ j, j < i → (l.getD j default).key.size ≤ 281474976710656) → n + i < maxLen →
    Calls Tryd.prog 24 #[.pointer (some ⟨sb, 0, none⟩), .slice a i cap, .slice ro i rc] w fun e w' => (∃ v, e = .returned v) ∧ St B w' sb lb rb (wide F w w') (n + i) L ∧ Gro F w w'
end Go.Proofs.YtjeheknhpfkaiaaDoor
