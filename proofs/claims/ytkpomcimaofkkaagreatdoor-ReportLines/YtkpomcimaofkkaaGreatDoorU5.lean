/-
  Lists in memory: slices of elements of some cells, lists that a loop fills by append.
  What stays beside a box.
  The code's reader of a report's text: its box; giving up, which is a panic; whether a word or mark comes next; taking it.
  The code's reader of a report's text: a word or mark taken; a token of a kind taken; a number.
  The code's reader of a report's text: a number, one of two words, lines' ends, a key.
-/
import Derived.WalkKit
import Derived.ProofKit
import Derived.Deep.AppendLies
import Derived.Test.YtkpomcimaofkkaaGreatDoorU2
import Derived.Lib.Builder
import Derived.Test.YtkpomcimaofkkaaGreatDoorU4
import Derived.Recover
import Derived.RegionTactic
import Derived.WalkLawsBesides
import Derived.Deep.LoopGhost
namespace Go.Proofs.YtkpomcimaofkkaaGreatDoor
set_option linter.unusedVariables false
set_option linter.unusedSimpArgs false
open Go.RowKit

/-- Two lists, element by element. -/
def allEq {α : Type} (eq : α → α → Bool) : List α → List α → Bool
  | [], [] => true
  | x :: xs, y :: ys => eq x y && allEq eq xs ys
  | _, _ => false

theorem allEq_len {α : Type} (eq : α → α → Bool) : ∀ (xs ys : List α), xs.length ≠ ys.length → allEq eq xs ys = false
  | [], [], h => absurd rfl h
  | [], _ :: _, _ => rfl
  | _ :: _, [], _ => rfl
  | x :: xs, y :: ys, h => by
    have := allEq_len eq xs ys (fun e => h (by simp [e]))
    simp [allEq, this]

theorem allEq_hit {α : Type} [Inhabited α] (eq : α → α → Bool) : ∀ (xs ys : List α), xs.length = ys.length → (∀ j, j < xs.length → eq (xs.getD j default) (ys.getD j default) = true) → allEq eq xs ys = true
  | [], [], _, _ => rfl
  | [], _ :: _, h, _ => by simp at h
  | _ :: _, [], h, _ => by simp at h
  | x :: xs, y :: ys, h, hj => by
    have h0 := hj 0 (by simp)
    have := allEq_hit eq xs ys (by simpa using h) (fun j hl => by simpa using hj (j + 1) (by simpa using hl))
    simp at h0
    simp [allEq, this, h0]

theorem allEq_miss {α : Type} [Inhabited α] (eq : α → α → Bool) : ∀ (xs ys : List α) (j : Nat), j < xs.length → eq (xs.getD j default) (ys.getD j default) = false → allEq eq xs ys = false
  | [], _, j, h, _ => by simp at h
  | _ :: _, [], j, _, _ => rfl
  | x :: xs, y :: ys, 0, _, hj => by simp at hj; simp [allEq, hj]
  | x :: xs, y :: ys, j + 1, h, hj => by
    have := allEq_miss eq xs ys j (by simpa using h) (by simpa using hj)
    simp [allEq, this]

theorem allEq_refl {α : Type} (eq : α → α → Bool) (h : ∀ x, eq x x = true) : ∀ xs, allEq eq xs xs = true
  | [] => rfl
  | x :: xs => by simp [allEq, h x, allEq_refl eq h xs]

theorem allEq_symm {α : Type} (eq : α → α → Bool) (h : ∀ x y, eq x y = eq y x) : ∀ xs ys, allEq eq xs ys = allEq eq ys xs
  | [], [] => rfl
  | [], _ :: _ => rfl
  | _ :: _, [] => rfl
  | x :: xs, y :: ys => by simp [allEq, h x y, allEq_symm eq h xs ys]

/-- A slice of elements of k cells, each with a property of its cells. -/
def RowsIn {α : Type} [Inhabited α] (k bytes : Nat) (R : List Value → α → Prop) (S : Nat → Prop) (w : World) (v : Value) (l : List α) : Prop :=
  ∃ ao c, v = .slice ao l.length c ∧ l.length * bytes ≤ 140737488355328 ∧ (0 < l.length → ∃ b off, ao = some ⟨b, off, none⟩ ∧ S b ∧ ∀ j, j < l.length → ∃ cs, cs.length = k ∧ R cs (l.getD j default) ∧ ∀ i u, cs[i]? = some u → w.cell? ⟨b, off + j * k + i, none⟩ = some u)

/-- w' holds what w held in the blocks of S. -/
def KeepsIn (S : Nat → Prop) (w w' : World) : Prop := ∀ b, S b → b < w.heap.size → w'.heap[b]? = w.heap[b]?

theorem KeepsIn.cell {S : Nat → Prop} {w w' : World} (h : KeepsIn S w w') {p : Addr} {u : Value} (hS : S p.block) (hc : w.cell? p = some u) : w'.cell? p = some u :=
  (World.cell?_of_block (w := w) (h p.block hS (World.block_lt_of_cell? _ _ hc))).trans hc

theorem RowsIn.keep {α : Type} [Inhabited α] {k bytes : Nat} {R R' : List Value → α → Prop} {S T : Nat → Prop} {w w' : World} {v : Value} {l : List α} (h : RowsIn k bytes R S w v l) (hk0 : 0 < k) (hR : ∀ cs x, R cs x → R' cs x) (hk : KeepsIn S w w') (hT : ∀ b, b < w.heap.size → S b → T b) : RowsIn k bytes R' T w' v l := by
  obtain ⟨ao, c, hv, hl, hc⟩ := h
  refine ⟨ao, c, hv, hl, fun h0 => ?_⟩
  obtain ⟨b, off, ha, hS, hj⟩ := hc h0
  refine ⟨b, off, ha, hT b ?_ hS, fun j h => ?_⟩
  · obtain ⟨cs, hlen, _, hcs⟩ := hj 0 h0
    exact World.block_lt_of_cell? _ _ (hcs 0 cs[0] (List.getElem?_eq_getElem (by omega)))
  · obtain ⟨cs, hlen, hr, hcs⟩ := hj j h
    exact ⟨cs, hlen, hR _ _ hr, fun i u hi => hk.cell (p := ⟨b, off + j * k + i, none⟩) hS (hcs i u hi)⟩

/-- Anywhere. -/
def Any (_ : Nat) : Prop := True
theorem keeps_below {S : Nat → Prop} {w w' : World} (h : Below w.heap.size w w') : KeepsIn S w w' := fun b _ hb => h.block b hb

/-- The cells of each element of a slice of length n. -/
def RowCells {α : Type} [Inhabited α] (k : Nat) (R : List Value → α → Prop) (w : World) (ao : Option Addr) (xs : List α) (n : Nat) : Prop :=
  ∀ j, j < n → ∃ b o cs, ao = some ⟨b, o, none⟩ ∧ b < w.heap.size ∧ cs.length = k ∧ R cs (xs.getD j default) ∧ ∀ i u, cs[i]? = some u → w.cell? ⟨b, o + j * k + i, none⟩ = some u

theorem RowsIn.cells {α : Type} [Inhabited α] {k bytes : Nat} {R : List Value → α → Prop} {S : Nat → Prop} {w : World} {v : Value} {l : List α} (h : RowsIn k bytes R S w v l) (hk : 0 < k) :
    ∃ ao c, v = .slice ao l.length c ∧ l.length * bytes ≤ 140737488355328 ∧ RowCells k R w ao l l.length := by
  obtain ⟨ao, c, hv, hl, hc⟩ := h
  refine ⟨ao, c, hv, hl, fun j hj => ?_⟩
  obtain ⟨b, off, ha, _, hcc⟩ := hc (by omega)
  obtain ⟨cs, h1, h2, h3⟩ := hcc j hj
  exact ⟨b, off, cs, ha, World.block_lt_of_cell? _ _ (h3 0 cs[0] (List.getElem?_eq_getElem (by omega))), h1, h2, h3⟩

theorem flatten_len {α : Type} (k : Nat) : ∀ (rows : List (List α)), (∀ r ∈ rows, r.length = k) → rows.flatten.length = rows.length * k
  | [], _ => by simp
  | r :: rows, h => by
    have := flatten_len k rows (fun x hx => h x (by simp [hx]))
    simp only [List.flatten_cons, List.length_append, List.length_cons, this, h r (by simp)]
    rw [Nat.add_mul]; omega

theorem flatten_get {α : Type} (k : Nat) : ∀ (rows : List (List α)) (j i : Nat), (∀ r ∈ rows, r.length = k) → j < rows.length → i < k → rows.flatten[j * k + i]? = (rows.getD j [])[i]?
  | [], j, i, _, h, _ => by simp at h
  | r :: rows, 0, i, h, _, hi => by
    have hr := h r (by simp)
    simp only [List.flatten_cons, Nat.zero_mul, Nat.zero_add]
    rw [List.getElem?_append_left (by omega)]
    simp
  | r :: rows, j + 1, i, h, hj, hi => by
    have hr := h r (by simp)
    have ih := flatten_get k rows j i (fun x hx => h x (by simp [hx])) (by simpa using hj) hi
    simp only [List.flatten_cons]
    rw [List.getElem?_append_right (by rw [hr, Nat.add_mul]; omega), hr, show (j + 1) * k + i - k = j * k + i by rw [Nat.add_mul]; omega, ih]
    simp

theorem owns_keep {w w' : World} {base e size n : Nat} {v : Value} {xs : List Value} (h : w.ownsRow base e size v n xs) (hk : ∀ g, v.ownBlock = some g → w'.heap[g]? = w.heap[g]?) : w'.ownsRow base e size v n xs := by
  refine ⟨h.1, ?_⟩
  rcases h.2 with hn | ⟨g, cap, cur, rfl, hb, hgg, rest⟩
  · exact .inl hn
  · exact .inr ⟨g, cap, cur, rfl, hb, (hk g rfl).trans hgg, rest⟩

/-- What a loop has gathered: n rows of 'size' cells in a block of its own, what they lead to elsewhere from B on. -/
structure OutInv {α : Type} [Inhabited α] (e size : Nat) (R : (Nat → Prop) → World → List Value → α → Prop) (B : Nat) (wr : World) (v : Value) (n : Nat) (rows : List (List Value)) (l : List α) : Prop where
  rn : rows.length = n
  ln : l.length = n
  own : wr.ownsRow B e size v n rows.flatten
  sizes : ∀ r ∈ rows, r.length = size
  each : ∀ j, j < n → R (fun b => B ≤ b ∧ v.ownBlock ≠ some b) wr (rows.getD j []) (l.getD j default)

theorem OutInv.nil {α : Type} [Inhabited α] (e size : Nat) (R : (Nat → Prop) → World → List Value → α → Prop) (B : Nat) (wr : World) : OutInv e size R B wr (.slice none 0 0) 0 [] [] :=
  ⟨rfl, rfl, World.ownsRow_nil _ _ _ _, fun _ h => by simp at h, fun j h => by omega⟩

section
variable {α : Type} [Inhabited α] {e size : Nat} {R : (Nat → Prop) → World → List Value → α → Prop} {B : Nat} {wr w3 w4 : World} {v : Value} {n : Nat} {rows : List (List Value)} {l : List α}

/-- In a world in which all older blocks are as they were, the row is as it was. -/
theorem OutInv.own3 (h : OutInv e size R B wr v n rows l) (h3 : Below wr.heap.size wr w3) : w3.ownsRow B e size v n rows.flatten :=
  owns_keep h.own (fun g hg => h3.block g (h.own.lt g hg).2)

/-- In a world in which all older blocks are as they were, all is as it was. -/
theorem OutInv.later (hkeep : ∀ (S T : Nat → Prop) w w' cs x, R S w cs x → KeepsIn S w w' → (∀ b, b < w.heap.size → S b → T b) → R T w' cs x) (h : OutInv e size R B wr v n rows l) (h3 : Below wr.heap.size wr w3) : OutInv e size R B w3 v n rows l :=
  ⟨h.rn, h.ln, h.own3 h3, h.sizes, fun j hj => hkeep _ _ _ _ _ _ (h.each j hj) (keeps_below h3) (fun _ _ h => h)⟩

/-- One element more. -/
theorem OutInv.step (hkeep : ∀ (S T : Nat → Prop) w w' cs x, R S w cs x → KeepsIn S w w' → (∀ b, b < w.heap.size → S b → T b) → R T w' cs x)
    (h : OutInv e size R B wr v n rows l) (hB : B ≤ wr.heap.size) (h3 : Below wr.heap.size wr w3) {row : List Value} {x : α} (hrow : R (fun b => wr.heap.size < b) w3 row x) (hlen : row.length = size)
    {g cap : Nat} (hown : w4.ownsRow B e size (.slice (some ⟨g, 0, none⟩) (n + 1) cap) (n + 1) (rows.flatten ++ row)) (hgrow : w3.grownBy w4 v.ownBlock) (hat : v.ownBlock = some g ∨ g = w3.heap.size) :
    OutInv e size R B w4 (.slice (some ⟨g, 0, none⟩) (n + 1) cap) (n + 1) (rows ++ [row]) (l ++ [x]) := by
  have hsz := h3.size
  have hlt : ∀ k, v.ownBlock = some k → k < wr.heap.size := fun k hk => (h.own.lt k hk).2
  refine ⟨by simp [h.rn], by simp [h.ln], by simpa using hown, ?_, fun j hj => ?_⟩
  · intro r hr
    rcases List.mem_append.1 hr with hr | hr
    · exact h.sizes r hr
    · simp at hr; rw [hr]; exact hlen
  · by_cases hjn : j < n
    · have e1 : (rows ++ [row]).getD j [] = rows.getD j [] := by simp [List.getD, List.getElem?_append_left (show j < rows.length by rw [h.rn]; exact hjn)]
      have e2 : (l ++ [x]).getD j default = l.getD j default := by simp [List.getD, List.getElem?_append_left (show j < l.length by rw [h.ln]; exact hjn)]
      rw [e1, e2]
      refine hkeep _ _ wr w4 _ _ (h.each j hjn) (fun b hb hbl => ?_) (fun b hbl hb => ⟨hb.1, ?_⟩)
      · exact (hgrow.block b (by omega) (fun e => hb.2 e.symm)).trans (h3.block b hbl)
      · simp only [Value.ownBlock]
        intro e
        cases e
        rcases hat with h' | h'
        · exact hb.2 h'
        · omega
    · have hjn' : j = n := by omega
      subst hjn'
      have e1 : (rows ++ [row]).getD j [] = row := by simp [List.getD, ← h.rn]
      have e2 : (l ++ [x]).getD j default = x := by simp [List.getD, ← h.ln]
      rw [e1, e2]
      refine hkeep _ _ w3 w4 _ _ hrow (fun b hb hbl => ?_) (fun b hbl hb => ⟨by omega, ?_⟩)
      · exact hgrow.block b hbl (fun e => by have := hlt b e.symm; omega)
      · simp only [Value.ownBlock]
        intro e
        cases e
        rcases hat with h' | h'
        · have := hlt _ h'; omega
        · omega

/-- At the end: the list lies in memory from B on. -/
theorem OutInv.rows_in {bytes : Nat} (hkeep : ∀ (S T : Nat → Prop) w w' cs x, R S w cs x → KeepsIn S w w' → (∀ b, b < w.heap.size → S b → T b) → R T w' cs x)
    (h : OutInv e size R B wr v n rows l) (hbytes : n * bytes ≤ 140737488355328) : RowsIn size bytes (R (fun b => B ≤ b) wr) (fun b => B ≤ b) wr v l := by
  have hl := h.ln
  subst hl
  rcases h.own.2 with ⟨hv, hn⟩ | ⟨g, cap, cur, hv, hg, _⟩
  · exact ⟨none, 0, by rw [hv, hn], hbytes, fun h0 => by omega⟩
  · refine ⟨some ⟨g, 0, none⟩, cap, hv, hbytes, fun _ => ⟨g, 0, rfl, hg, fun j hj => ?_⟩⟩
    have hjr : j < rows.length := by rw [h.rn]; exact hj
    have hmem : rows.getD j [] ∈ rows := by simp [List.getD, List.getElem?_eq_getElem hjr]
    refine ⟨rows.getD j [], h.sizes _ hmem, hkeep _ _ wr wr _ _ (h.each j hj) (fun _ _ _ => rfl) (fun b _ hb => hb.1), fun i u hi => ?_⟩
    have hil : i < size := by rw [← h.sizes _ hmem]; exact (List.getElem?_eq_some_iff.1 hi).1
    have := h.own.cells (g := g) (by rw [hv]; rfl) (j * size + i) u (by rw [flatten_get size rows j i h.sizes hjr hil]; exact hi)
    rw [Addr.add_lit] at this
    simpa [Nat.add_assoc] using this
end

/-- To store what is there changes nothing. -/
theorem setCell_self {w : World} {a : Addr} {v : Value} (h : w.cell? a = some v) : w.setCell a v = w := by
  have hh : (w.setCell a v).heap = w.heap := by
    apply Array.ext_getElem?
    intro k
    by_cases hk : k = a.block
    · subst hk
      simp only [World.setCell, Array.getElem?_modify, if_true]
      unfold World.cell? at h
      split at h
      · rename_i c t f hc
        split at h
        · cases h
        · rename_i hs
          rw [hc]
          have hlt : a.off < c.size := (Array.getElem?_eq_some_iff.1 h).1
          have hv : c[a.off] = v := (Array.getElem?_eq_some_iff.1 h).2
          simp only [← hv, Option.map_some, Option.some.injEq, Obj.cells.injEq, and_true]
          rw [if_neg hs]
          apply Array.ext_getElem?
          intro j
          rw [Array.getElem?_setIfInBounds]
          by_cases hj : a.off = j
          · subst hj; simp [hlt]
          · simp [hj]
      · cases h
    · exact Below.heap_setCell _ _ _ _ hk
  cases w
  simp only [World.setCell] at hh ⊢
  simp [hh]
end Go.Proofs.YtkpomcimaofkkaaGreatDoor
namespace Go.Proofs.YtkpomcimaofkkaaGreatDoor.Rp
set_option linter.unusedVariables false
set_option linter.unusedSimpArgs false
open Go.RowKit


theorem new_cells (w : World) (cs : Array Value) (t : TypeId) (j : Nat) : (w.alloc (.cells cs t)).cell? ⟨w.heap.size, j, none⟩ = cs[j]? := Lib.cell_of_heap (heap_alloc_new w _) j
theorem below_box (w : World) (o : Obj) : Below w.heap.size w (w.alloc o) := (Below.refl _ _).alloc (Nat.le_refl _) _

/-- w' is w but for the block bx and new ones. -/
structure Beside (bx : Nat) (w w' : World) : Prop where
  os : w'.os = w.os
  tape : w'.tape = w.tape
  output : w'.output = w.output
  size : w.heap.size ≤ w'.heap.size
  block : ∀ k, k < w.heap.size → k ≠ bx → w'.heap[k]? = w.heap[k]?

theorem Beside.refl (bx : Nat) (w : World) : Beside bx w w := ⟨rfl, rfl, rfl, Nat.le_refl _, fun _ _ _ => rfl⟩
theorem Beside.of_below {bx : Nat} {w w' : World} (h : Below w.heap.size w w') : Beside bx w w' := ⟨h.os, h.tape, h.output, h.size, fun k hk _ => h.block k hk⟩
theorem Beside.trans {bx : Nat} {w w1 w2 : World} (h1 : Beside bx w w1) (h2 : Beside bx w1 w2) : Beside bx w w2 :=
  ⟨h2.os.trans h1.os, h2.tape.trans h1.tape, h2.output.trans h1.output, Nat.le_trans h1.size h2.size, fun k hk hn => (h2.block k (Nat.lt_of_lt_of_le hk h1.size) hn).trans (h1.block k hk hn)⟩
theorem Beside.below {bx B : Nat} {w w' : World} (h : Beside bx w w') (hb : B ≤ bx) (hs : B ≤ w.heap.size) : Below B w w' := ⟨h.os, h.tape, h.output, h.size, fun k hk => h.block k (by omega) (by omega)⟩
theorem Beside.cell {bx : Nat} {w w' : World} (h : Beside bx w w') {p : Addr} (hp : p.block < w.heap.size) (hn : p.block ≠ bx) : w'.cell? p = w.cell? p := World.cell?_of_block (w := w) (h.block _ hp hn)
theorem Beside.setCell {bx : Nat} {w w' : World} (h : Beside bx w w') {p : Addr} (hp : p.block = bx) (v : Value) : Beside bx w (w'.setCell p v) := by
  have hb : Below bx w' (w'.setCell p v) := (Below.refl bx w').setCell (p := p) (by omega) v
  refine ⟨hb.os.trans h.os, hb.tape.trans h.tape, hb.output.trans h.output, Nat.le_trans h.size hb.size, fun k hk hn => ?_⟩
  refine Eq.trans ?_ (h.block k hk hn)
  simp only [World.setCell, Array.getElem?_modify]
  rw [if_neg (by omega)]

theorem Beside.setNew {bx : Nat} {w w' : World} (h : Beside bx w w') {p : Addr} (hp : w.heap.size ≤ p.block) (v : Value) : Beside bx w (w'.setCell p v) := by
  have hb : Below w.heap.size w' (w'.setCell p v) := (Below.refl _ w').setCell (p := p) hp v
  exact ⟨hb.os.trans h.os, hb.tape.trans h.tape, hb.output.trans h.output, Nat.le_trans h.size hb.size, fun k hk hn => (hb.block k hk).trans (h.block k hk hn)⟩
theorem Beside.frozen {bx : Nat} {w w' : World} (h : Beside bx w w') {p : Addr} (hp : p.block < w.heap.size) (hn : p.block ≠ bx) : w'.frozen? p = w.frozen? p := by
  unfold World.frozen?
  rw [h.block _ hp hn]

end Go.Proofs.YtkpomcimaofkkaaGreatDoor.Rp
namespace Go.Proofs.YtkpomcimaofkkaaGreatDoor.Rp
set_option linter.unusedVariables false
set_option linter.unusedSimpArgs false
open Go.RowKit Go.Lib

/-- A token's cells. -/
def tkC (t : MTok) : List Value := [.int .i64 t.1, .int .i64 t.2.1, .string t.2.2.1, .int .i64 t.2.2.2]
abbrev tokV (t : MTok) : Value := .agg #[.int .i64 t.1, .int .i64 t.2.1, .string t.2.2.1, .int .i64 t.2.2.2]
/-- Tokens in memory, below bx. -/
def LeftQ (bx : Nat) (w : World) (v : Value) (l : List MTok) : Prop :=
  ∃ ao c, v = .slice ao l.length c ∧ l.length ≤ c ∧ (0 < l.length → ∃ b off, ao = some ⟨b, off, none⟩ ∧ b < bx ∧ ∀ j, j < l.length → ∀ i u, (tkC (l.getD j default))[i]? = some u → w.cell? ⟨b, off + j * 4 + i, none⟩ = some u)
theorem LeftQ.keep {bx : Nat} {w w' : World} {v : Value} {l : List MTok} (h : LeftQ bx w v l) (hb : Below bx w w') : LeftQ bx w' v l := by
  obtain ⟨ao, c, hv, hc, hj⟩ := h
  refine ⟨ao, c, hv, hc, fun h0 => ?_⟩
  obtain ⟨b, off, ha, hlt, hcs⟩ := hj h0
  exact ⟨b, off, ha, hlt, fun j hjl i u hi => (hb.cell (p := ⟨b, off + j * 4 + i, none⟩) hlt).trans (hcs j hjl i u hi)⟩
theorem LeftQ.beside {bx : Nat} {w w' : World} {v : Value} {l : List MTok} (h : LeftQ bx w v l) (hb : Beside bx w w') (hs : bx ≤ w.heap.size) : LeftQ bx w' v l := h.keep (hb.below (Nat.le_refl _) hs)
theorem LeftQ.tail1 {bx : Nat} {w : World} {b off c n : Nat} {t : MTok} {l : List MTok} (h : LeftQ bx w (.slice (some ⟨b, off, none⟩) n c) (t :: l)) : LeftQ bx w (.slice (some ⟨b, off + 4, none⟩) l.length (c - 1)) l := by
  obtain ⟨ao, c', hv, hc, hj⟩ := h
  cases hv
  obtain ⟨b', off', ha, hlt, hcs⟩ := hj (by simp)
  cases ha
  simp only [List.length_cons] at *
  refine ⟨_, c - 1, rfl, by omega, fun h0 => ?_⟩
  refine ⟨b, off + 4, rfl, hlt, fun j hjl i u hi => ?_⟩
  have := hcs (j + 1) (by omega) i u (by simpa using hi)
  rw [show off + 4 + j * 4 + i = off + (j + 1) * 4 + i by omega]
  exact this
theorem LeftQ.tail0 {bx : Nat} {w : World} {a : Option Addr} {l : List MTok} (h : l.length + 1 ≤ 1) : LeftQ bx w (.slice a l.length 0) l :=
  ⟨a, 0, rfl, by omega, fun h0 => by omega⟩
/-- The reader in its box. -/
structure PQ (bx : Nat) (T : List MTok) (w : World) : Prop where
  left : ∃ v, w.cell? ⟨bx, 0, none⟩ = some v ∧ LeftQ bx w v T
  z0 : w.frozen? ⟨bx, 0, none⟩ = false
  few : T.length ≤ 20000
theorem PQ.lt {bx : Nat} {T : List MTok} {w : World} (h : PQ bx T w) : bx < w.heap.size := World.block_lt_of_cell? _ _ h.left.choose_spec.1
theorem PQ.keep {bx : Nat} {T : List MTok} {w w' : World} (h : PQ bx T w) (hb : Below (bx + 1) w w') : PQ bx T w' := by
  obtain ⟨v, h0, hl⟩ := h.left
  exact ⟨⟨v, (hb.cell (p := ⟨bx, 0, none⟩) (Nat.lt_succ_self _)).trans h0, hl.keep (hb.mono (Nat.le_succ _))⟩, (hb.frozen (p := ⟨bx, 0, none⟩) (Nat.lt_succ_self _)).trans h.z0, h.few⟩
theorem PQ.later {bx : Nat} {T : List MTok} {w w' : World} (h : PQ bx T w) (hb : Below w.heap.size w w') : PQ bx T w' := h.keep (hb.mono h.lt)
/-- A store elsewhere. -/
theorem PQ.other {bx g i : Nat} {T : List MTok} {w : World} (h : PQ bx T w) (hg : bx < g) (u : Value) : PQ bx T (w.setCell ⟨g, i, none⟩ u) := h.keep ((Below.refl (bx + 1) w).setCell (p := ⟨g, i, none⟩) hg u)
theorem PQ.set {bx : Nat} {t : MTok} {T : List MTok} {w : World} {u : Value} (h : PQ bx (t :: T) w) (hl : LeftQ bx w u T) : PQ bx T (w.setCell ⟨bx, 0, none⟩ u) := by
  obtain ⟨v, h0, _⟩ := h.left
  have hf := h.few
  simp at hf
  exact ⟨⟨u, World.cell?_setCell_same _ _ _ h0, hl.beside ((Beside.refl bx w).setCell (p := ⟨bx, 0, none⟩) rfl _) (Nat.le_of_lt h.lt)⟩, (World.frozen?_setCell _ _ _ _).trans h.z0, by omega⟩
/-- The ending of one who gave up. -/
abbrev gaveUp : Ending := .panicked [{ v := .iface 30 (.int .i64 210), recovered := false }]
theorem giveUp_is (w : World) : Calls Tryz.prog 20 #[] w fun e w' => e = gaveUp ∧ w = w' := by
  go_enter Tryz.func20, Tryz.ntmps20
  go_wp2_with fail
  exact ⟨rfl, rfl, rfl⟩
/-- What a part of the reader leaves: what it is, with the reader behind it; or it gave up. -/
def ToldQ {α : Type} (bx : Nat) (w : World) (val : α → Value) (p : Qs α) (e : Ending) (w' : World) : Prop := match p with
  | some z => PQ bx z.2 w' ∧ e = .returned (val z.1) ∧ Beside bx w w'
  | none => e = gaveUp ∧ Beside bx w w'
set_option maxHeartbeats 2000000 in
set_option maxRecDepth 100000 in
theorem csees_is (bx : Nat) (x : ByteArray) (T : List MTok) (w : World) (h : PQ bx T w) :
    Calls Tryz.prog 62 #[.pointer (some ⟨bx, 0, none⟩), .string x] w fun e w' => e = .returned (.bool (qSees T x)) ∧ w = w' := by
  obtain ⟨⟨v, c0, ao, c, rfl, hc, hj⟩, z0, hfew⟩ := h
  cases T with
  | nil =>
    clear hj
    have hz : ¬ (0 : Int) < ((0 : Nat) : Int) := by omega
    go_enter Tryz.func62, Tryz.ntmps62
    go_wp2_with fail
    go_ret
    exact ⟨rfl, rfl⟩
  | cons t r =>
    obtain ⟨b, off, rfl, hbb, hcs⟩ := hj (by simp)
    have d2 : w.cell? ⟨b, off + 2, none⟩ = some (.string t.2.2.1) := by
      have := hcs 0 (by simp) 2 (.string t.2.2.1) rfl
      simpa using this
    have hl1 : ((t :: r).length : Int) = (r.length : Int) + 1 := by simp
    have hpos : (0 : Int) < (r.length : Int) + 1 := by omega
    have hl2 : (t :: r).length = r.length + 1 := rfl
    have hr0 : 0 < r.length + 1 := by omega
    clear hcs hj hfew hc
    show Calls _ _ _ _ fun e w' => e = .returned (.bool (t.2.2.1.toList == x.toList)) ∧ w = w'
    rw [hl2] at c0
    clear hl2 hl1
    go_enter Tryz.func62, Tryz.ntmps62
    go_wp2_with fail
    go_ret
    exact ⟨rfl, rfl⟩
end Go.Proofs.YtkpomcimaofkkaaGreatDoor.Rp
namespace Go.Proofs.YtkpomcimaofkkaaGreatDoor.Rp
set_option linter.unusedVariables false
set_option linter.unusedSimpArgs false
open Go.RowKit Go.Lib

theorem pq_take {bx : Nat} {t : MTok} {T : List MTok} {w : World} {u : Value} (h : PQ bx (t :: T) w) (hl : LeftQ bx w u T) (o1 o2 : Obj) : PQ bx T (((w.setCell ⟨bx, 0, none⟩ u).alloc o1).alloc o2) :=
  ((h.set hl).later (below_box _ o1)).later (below_box _ o2)
theorem be_take (bx : Nat) (w : World) (u : Value) (o1 o2 : Obj) : Beside bx w (((w.setCell ⟨bx, 0, none⟩ u).alloc o1).alloc o2) :=
  (((Beside.refl bx w).setCell (p := ⟨bx, 0, none⟩) rfl _).trans (Beside.of_below (below_box _ o1))).trans (Beside.of_below (below_box _ o2))
set_option maxHeartbeats 2000000 in
set_option maxRecDepth 100000 in
theorem ctext_is (bx : Nat) (x : ByteArray) (T : List MTok) (w : World) (h : PQ bx T w) :
    Calls Tryz.prog 58 #[.pointer (some ⟨bx, 0, none⟩), .string x] w fun e w' => ToldQ bx w (fun _ => .tuple #[]) (qText x T) e w' := by
  have S := hid (csees_is bx x T w h)
  unfold qText
  cases hs : qSees T x with
  | false =>
    rw [hs] at S
    rw [if_neg (by simp)]
    show Calls _ _ _ _ fun e w' => e = gaveUp ∧ Beside bx w w'
    clear h
    go_enter Tryz.func58, Tryz.ntmps58
    go_wp2_with (first | (go_at_call 62; refine S.out.mono ?_; rintro e w2 ⟨rfl, rfl⟩) | (go_at_call 20; refine (giveUp_is _).mono ?_; rintro e w3 ⟨rfl, rfl⟩))
    exact ⟨rfl, rfl, Beside.refl _ _⟩
  | true =>
    cases T with
    | nil => cases hs
    | cons t r =>
      rw [hs] at S
      rw [if_pos rfl]
      show Calls _ _ _ _ fun e w' => PQ bx r w' ∧ e = .returned (.tuple #[]) ∧ Beside bx w w'
      have H := hid h
      obtain ⟨⟨v, c0, hle⟩, z0, hfew⟩ := h
      have HLE := hid hle
      obtain ⟨ao, c, rfl, hc, hj⟩ := hle
      obtain ⟨b, off, rfl, hbb, hcs⟩ := hj (by simp)
      clear hcs hj hfew hs
      simp only [List.length_cons] at *
      go_enter Tryz.func58, Tryz.ntmps58
      go_wp2_with (first | (go_at_call 62; refine S.out.mono ?_; rintro e w2 ⟨rfl, rfl⟩))
      · exact bodyPost_end (results_none rfl _ _ _) rfl ⟨H.out.set (LeftQ.tail0 (by omega)), rfl, (Beside.refl bx w).setCell (p := ⟨bx, 0, none⟩) rfl _⟩
      · exact bodyPost_end (results_none rfl _ _ _) rfl ⟨H.out.set HLE.out.tail1, rfl, (Beside.refl bx w).setCell (p := ⟨bx, 0, none⟩) rfl _⟩
theorem ctake_no (bx : Nat) (k : Int) (T : List MTok) (w : World) (h : PQ bx T w) (hk : qTake k T = none) :
    Calls Tryz.prog 95 #[.pointer (some ⟨bx, 0, none⟩), .int .i64 k] w fun e w' => e = gaveUp ∧ Beside bx w w' := by
  have hlt := h.lt
  have hne : ¬ bx = w.heap.size := by omega
  obtain ⟨⟨v, c0, ao, c, rfl, hc, hj⟩, z0, hfew⟩ := h
  cases T with
  | nil =>
    clear hj hfew hc hk
    go_enter Tryz.func95, Tryz.ntmps95
    go_wp2_with (first | (go_at_call 20; refine (giveUp_is _).mono ?_; rintro e w3 ⟨rfl, rfl⟩))
    exact ⟨rfl, rfl, Beside.of_below (below_box _ _)⟩
  | cons t r =>
    have ht : ¬ t.1 = k := fun c => by rw [show qTake k (t :: r) = some (t, r) from if_pos c] at hk; cases hk
    obtain ⟨b, off, rfl, hbb, hcs⟩ := hj (by simp)
    have d0 : w.cell? ⟨b, off, none⟩ = some (.int .i64 t.1) := by simpa using hcs 0 (by simp) 0 _ rfl
    have hb2 : (t.1 == k) = false := by simpa using ht
    have hb3 : (t.1 != k) = true := by simpa using ht
    have hlb : b < w.heap.size := by omega
    clear hcs hj hfew hk ht
    simp only [List.length_cons] at *
    have hnz : ¬ (r.length : Int) + 1 = 0 := by omega
    have hnzb : ((r.length : Int) + 1 == 0) = false := by simpa using hnz
    have hrp : (0 : Int) < (r.length : Int) + 1 := by omega
    go_enter Tryz.func95, Tryz.ntmps95
    go_wp2_with (first | (go_at_call 20; refine (giveUp_is _).mono ?_; rintro e w3 ⟨rfl, rfl⟩))
    exact ⟨rfl, rfl, Beside.of_below (below_box _ _)⟩
theorem ctake_yes (bx : Nat) (t : MTok) (r : List MTok) (w : World) (h : PQ bx (t :: r) w) :
    Calls Tryz.prog 95 #[.pointer (some ⟨bx, 0, none⟩), .int .i64 t.1] w fun e w' => PQ bx r w' ∧ e = .returned (tokV t) ∧ Beside bx w w' := by
  have hlt := h.lt
  have hne : ¬ bx = w.heap.size := by omega
  have H := hid h
  obtain ⟨⟨v, c0, hle⟩, z0, hfew⟩ := h
  have HLE := hid hle
  obtain ⟨ao, c, rfl, hc, hj⟩ := hle
  obtain ⟨b, off, rfl, hbb, hcs⟩ := hj (by simp)
  have d0 : w.cell? ⟨b, off, none⟩ = some (.int .i64 t.1) := by simpa using hcs 0 (by simp) 0 _ rfl
  have d1 : w.cell? ⟨b, off + 1, none⟩ = some (.int .i64 t.2.1) := by simpa using hcs 0 (by simp) 1 _ rfl
  have d2 : w.cell? ⟨b, off + 2, none⟩ = some (.string t.2.2.1) := by simpa using hcs 0 (by simp) 2 _ rfl
  have d3 : w.cell? ⟨b, off + 3, none⟩ = some (.int .i64 t.2.2.2) := by simpa using hcs 0 (by simp) 3 _ rfl
  have hb2 : (t.1 == t.1) = true := by simp
  have hb3 : (t.1 != t.1) = false := by simp
  have hlb : b < w.heap.size := by omega
  clear hcs hj hfew
  simp only [List.length_cons] at *
  have hnz : ¬ (r.length : Int) + 1 = 0 := by omega
  have hnzb : ((r.length : Int) + 1 == 0) = false := by simpa using hnz
  have hrp : (0 : Int) < (r.length : Int) + 1 := by omega
  go_enter Tryz.func95, Tryz.ntmps95
  go_wp2_with fail
  · exact bodyPost_ret (v := tokV t) (by simp [results, Tryz.results95, go_sem]) rfl ⟨pq_take H.out (LeftQ.tail0 (by omega)) _ _, rfl, be_take _ _ _ _ _⟩
  · exact bodyPost_ret (v := tokV t) (by simp [results, Tryz.results95, go_sem]) rfl ⟨pq_take H.out HLE.out.tail1 _ _, rfl, be_take _ _ _ _ _⟩
theorem ctake_is (bx : Nat) (k : Int) (T : List MTok) (w : World) (h : PQ bx T w) :
    Calls Tryz.prog 95 #[.pointer (some ⟨bx, 0, none⟩), .int .i64 k] w fun e w' => ToldQ bx w tokV (qTake k T) e w' := by
  cases T with
  | nil => exact ctake_no bx k [] w h rfl
  | cons t r =>
    by_cases c : t.1 = k
    · subst c
      rw [show qTake t.1 (t :: r) = some (t, r) from if_pos rfl]
      exact ctake_yes bx t r w h
    · have e : qTake k (t :: r) = none := if_neg c
      rw [e]
      exact ctake_no bx k (t :: r) w h e
end Go.Proofs.YtkpomcimaofkkaaGreatDoor.Rp
namespace Go.Proofs.YtkpomcimaofkkaaGreatDoor.Rp
set_option linter.unusedVariables false
set_option linter.unusedSimpArgs false
open Go.RowKit Go.Lib

theorem tokf2 (a b : Int) (c : ByteArray) (d : Int) (W : World) : (Instr.field 61 (.agg #[.int .i64 a, .int .i64 b, .string c, .int .i64 d]) 2).run Tryz.prog W = .ok (.string c) W := by kernel_rfl
theorem tokf3 (a b : Int) (c : ByteArray) (d : Int) (W : World) : (Instr.field 61 (.agg #[.int .i64 a, .int .i64 b, .string c, .int .i64 d]) 3).run Tryz.prog W = .ok (.int .i64 d) W := by kernel_rfl
theorem toldQ_none {α : Type} {bx : Nat} {w : World} {val : α → Value} {p : Qs α} (h : p = none) {e : Ending} {w' : World} (he : e = gaveUp) (hb : Beside bx w w') : ToldQ bx w val p e w' := by rw [h]; exact ⟨he, hb⟩
theorem toldQ_some {α : Type} {bx : Nat} {w : World} {val : α → Value} {p : Qs α} {x : α} {l : List MTok} (h : p = some (x, l)) {e : Ending} {w' : World} (hp : PQ bx l w') (he : e = .returned (val x)) (hb : Beside bx w w') : ToldQ bx w val p e w' := by rw [h]; exact ⟨hp, he, hb⟩
theorem andQ_none {α β : Type} {p : Qs α} {f : α → List MTok → Qs β} (h : p = none) : andQ p f = none := by rw [h]; rfl
theorem andQ_some {α β : Type} {p : Qs α} {f : α → List MTok → Qs β} {x : α} {l : List MTok} (h : p = some (x, l)) : andQ p f = f x l := by rw [h]; rfl
set_option maxHeartbeats 2000000 in
set_option maxRecDepth 100000 in
theorem cnum_is (bx : Nat) (T : List MTok) (w : World) (h : PQ bx T w) :
    Calls Tryz.prog 59 #[.pointer (some ⟨bx, 0, none⟩)] w fun e w' => ToldQ bx w (fun x => .int .i64 x) (qNum T) e w' := by
  have K := hid (ctake_is bx 2 T w h)
  clear h
  go_enter Tryz.func59, Tryz.ntmps59
  go_wp2_with fail
  go_at_call 95
  refine K.out.mono ?_
  rintro e w2 h2
  cases hp : qTake 2 T with
  | none =>
    rw [hp] at h2
    obtain ⟨rfl, b2⟩ := h2
    exact ⟨rfl, toldQ_none (andQ_none hp) rfl b2⟩
  | some z =>
    obtain ⟨⟨t0, t1, t2, t3⟩, l⟩ := z
    rw [hp] at h2
    obtain ⟨p2, rfl, b2⟩ := h2
    have tf := tokf3 t0 t1 t2 t3
    have P2 := hid p2
    have B2 := hid b2
    clear p2 b2
    go_wp2_with fail
    go_ret
    exact toldQ_some (andQ_some hp) P2.out rfl B2.out
set_option maxHeartbeats 2000000 in
set_option maxRecDepth 100000 in
theorem ceither_is (bx : Nat) (y n : ByteArray) (T : List MTok) (w : World) (h : PQ bx T w) :
    Calls Tryz.prog 61 #[.pointer (some ⟨bx, 0, none⟩), .string y, .string n] w fun e w' => ToldQ bx w (fun x => .bool x) (qEither y n T) e w' := by
  have S := hid (csees_is bx y T w h)
  have TY := hid (ctext_is bx y T w h)
  have TN := hid (ctext_is bx n T w h)
  clear h
  unfold qEither
  cases hs : qSees T y with
  | true =>
    rw [hs] at S
    rw [if_pos rfl]
    have hy : qText y T = some ((), T.tail) := by unfold qText; rw [hs]; rfl
    rw [hy] at TY
    rw [andQ_some hy]
    clear TN
    go_enter Tryz.func61, Tryz.ntmps61
    go_wp2_with (go_at_call 62; refine S.out.mono ?_; rintro e w2 ⟨rfl, rfl⟩)
    go_at_call 58
    refine TY.out.mono ?_
    rintro e w2 ⟨p2, rfl, b2⟩
    go_wp2_with fail
    go_ret
    exact ⟨p2, rfl, b2⟩
  | false =>
    rw [hs] at S
    rw [if_neg (by simp)]
    clear TY
    go_enter Tryz.func61, Tryz.ntmps61
    go_wp2_with (go_at_call 62; refine S.out.mono ?_; rintro e w2 ⟨rfl, rfl⟩)
    go_at_call 58
    refine TN.out.mono ?_
    rintro e w2 h2
    cases hp : qText n T with
    | none =>
      rw [hp] at h2
      obtain ⟨rfl, b2⟩ := h2
      exact ⟨rfl, toldQ_none (andQ_none hp) rfl b2⟩
    | some z =>
      rw [hp] at h2
      obtain ⟨p2, rfl, b2⟩ := h2
      go_wp2_with fail
      go_ret
      exact toldQ_some (andQ_some hp) p2 rfl b2
set_option maxHeartbeats 2000000 in
set_option maxRecDepth 100000 in
theorem cempty_is (bx : Nat) (T : List MTok) (w : World) (h : PQ bx T w) :
    Calls Tryz.prog 57 #[.pointer (some ⟨bx, 0, none⟩)] w fun e w' => e = .returned (.tuple #[]) ∧ PQ bx (qLines T) w' ∧ Beside bx w w' := by
  have H := hid h
  clear h
  go_enter Tryz.func57, Tryz.ntmps57
  go_wp2_with fail
  go_loopg [] T.length (fun g wr => ∃ L : List MTok, L.length ≤ g ∧ Aside (PQ bx L wr ∧ qLines L = qLines T ∧ Beside bx w wr))
  case atStart => exact ⟨T, Nat.le_refl _, H.out, rfl, Beside.refl _ _⟩
  case round =>
    clear H
    obtain ⟨L, hg, HX⟩ := hrel
    obtain ⟨⟨v, c0, hle⟩, z0, hfew⟩ := HX.out.1
    obtain ⟨ao, c, rfl, hc, hj⟩ := hle
    cases L with
    | nil =>
      clear hj hc hg
      go_wp2_with fail
      refine bodyPost_end (results_none rfl _ _ _) rfl ⟨rfl, ?_, HX.out.2.2⟩
      rw [← HX.out.2.1]
      exact HX.out.1
    | cons t r =>
      obtain ⟨b, off, rfl, hbb, hcs⟩ := hj (by simp)
      have d0 : wr.cell? ⟨b, off, none⟩ = some (.int .i64 t.1) := by simpa using hcs 0 (by simp) 0 _ rfl
      have hrp : (0 : Int) < (r.length : Int) + 1 := by omega
      have hnz : 0 < r.length + 1 := by omega
      clear hcs hj hfew hc
      simp only [List.length_cons] at *
      by_cases ht : t.1 = 4
      · have hb2 : (t.1 == 4) = true := by simpa using ht
        have K := hid (ctake_is bx 4 (t :: r) wr HX.out.1)
        rw [show qTake 4 (t :: r) = some (t, r) from if_pos ht] at K
        have HT := hid ht
        clear ht
        go_wp2_with fail
        go_at_call 95
        refine K.out.mono ?_
        rintro e w2 ⟨p2, rfl, b2⟩
        have P2 := hid p2
        have B2 := hid b2
        clear p2 b2
        go_wp2_with fail
        go_roundg r.length
        case measure => omega
        case rel => exact ⟨r, Nat.le_refl _, P2.out, by rw [← HX.out.2.1]; show qLines r = if t.1 = 4 then qLines r else t :: r; rw [if_pos HT.out], HX.out.2.2.trans B2.out⟩
      · have hb2 : (t.1 == 4) = false := by simpa using ht
        have HT := hid ht
        clear ht
        go_wp2_with fail
        refine bodyPost_end (results_none rfl _ _ _) rfl ⟨rfl, ?_, HX.out.2.2⟩
        rw [← HX.out.2.1]
        show PQ bx (if t.1 = 4 then qLines r else t :: r) _
        rw [if_neg HT.out]
        exact HX.out.1
set_option maxHeartbeats 2000000 in
set_option maxRecDepth 100000 in
theorem clineEnd_is (bx : Nat) (T : List MTok) (w : World) (h : PQ bx T w) :
    Calls Tryz.prog 60 #[.pointer (some ⟨bx, 0, none⟩)] w fun e w' => ToldQ bx w (fun _ => .tuple #[]) (qLineEnd T) e w' := by
  have K := hid (ctake_is bx 4 T w h)
  clear h
  go_enter Tryz.func60, Tryz.ntmps60
  go_wp2_with fail
  go_at_call 95
  refine K.out.mono ?_
  rintro e w2 h2
  cases hp : qTake 4 T with
  | none =>
    rw [hp] at h2
    obtain ⟨rfl, b2⟩ := h2
    exact ⟨rfl, toldQ_none (andQ_none hp) rfl b2⟩
  | some z =>
    obtain ⟨t, l⟩ := z
    rw [hp] at h2
    obtain ⟨p2, rfl, b2⟩ := h2
    have E := hid (cempty_is bx l w2 p2)
    go_wp2_with fail
    go_at_call 57
    refine E.out.mono ?_
    rintro e w3 ⟨rfl, p3, b3⟩
    go_wp2_with fail
    exact bodyPost_end (results_none rfl _ _ _) rfl (toldQ_some (andQ_some hp) p3 rfl (b2.trans b3))
end Go.Proofs.YtkpomcimaofkkaaGreatDoor.Rp
