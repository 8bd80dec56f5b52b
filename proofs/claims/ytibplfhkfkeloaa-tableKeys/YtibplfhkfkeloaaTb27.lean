/-
  Drawn regions over the worlds behind a world; short keys; two zero transactions.
-/
import Derived.Test.YtibplfhkfkeloaaTb26
import Derived.Shelf.SlSortCmp.QuietGrown
namespace Go.Proofs.Ytibplfhkfkeloaa
set_option linter.unusedVariables false
set_option linter.unusedSimpArgs false
open Go.RowKit Go.Lib Go.Maps
open Tx (MTxn info_parts flatten_len flatten_get RowsIn.cells RowCells TxnRow TxnsIn TxnsOwn setCell_self cloneInts_any OpsOwn smallL cutTxn cutOp Soft)

/-- The worlds behind w in which nothing of it has changed. -/
def BW (w : World) : Type := {W : World // Below w.heap.size w W}
theorem bwSome (w : World) : Nonempty (BW w) := ⟨⟨w, Below.refl _ _⟩⟩
theorem wp_region_quiet_below {P : Program} {id : Nat} {Q : Exit → Act → World → Prop} {a : Act} {w : World} {l : List Oper} (hm : P.follows .mixedOrders = true) (hB : Region.lexB .any l.toArray = true)
    (h : wpQuiet P l.toArray (fun w' => ∃ p : BW w, w' = p.val) (fun a' => ∀ w', (∃ p : BW w, w' = p.val) → Q .normal a' w') l a) : (Code.region id l.toArray true).wp P Q a w :=
  wp_region_quiet (C := fun w' => ∃ p : BW w, w' = p.val) hm hB ⟨⟨{ w with drawn := w.drawn + 1 }, ⟨rfl, rfl, rfl, Nat.le_refl _, fun _ _ => rfl⟩⟩, rfl⟩ (by simpa using h)
theorem bcell {w : World} {a : Addr} {v : Value} (h : w.cell? a = some v) : ∀ p : BW w, p.val.cell? a = some v := fun p => cell_later p.2 h
theorem notesT_key (k : Nat) (T : List MOp) (x : MN) (h : x ∈ notesT k T) : x.2.2 ∈ T := by
  obtain ⟨i, hi, rfl⟩ := List.mem_map.1 h
  exact getD_mem T i (List.mem_range.1 hi)
theorem notes_key (l : List MTxn) (hok : ∀ t ∈ l, ∀ o ∈ t.ops, OpOk o) : ∀ n, n ≤ l.length → ∀ x ∈ notes l n, x.2.2.key.size ≤ 281474976710656
  | 0, _, x, hx => by cases hx
  | n + 1, hn, x, hx => by
    rcases List.mem_append.1 (show x ∈ notes l n ++ notesT n (l.getD n default).ops from hx) with c | c
    · exact notes_key l hok n (by omega) x c
    · exact (hok _ (getD_mem l n (by omega)) _ (notesT_key n _ x c)).1
theorem kind_mem (N : List MN) (s : ByteArray) (h : kindN N s ≠ 0) : ∃ x ∈ N, x.2.2.key = s := by
  unfold kindN at h
  cases hf : N.find? (fun x => decide (x.2.2.key = s ∧ thing x.2.2.kind ≠ 0)) with
  | none => rw [hf] at h; exact absurd rfl h
  | some y =>
    have hd := List.find?_some hf
    exact ⟨y, List.mem_of_find?_eq_some hf, (of_decide_eq_true hd).1⟩
theorem key_short (N : List MN) (hs : ∀ x ∈ N, x.2.2.key.size ≤ maxLen) (k : Bs) (hk : k ∈ keysN N []) : k.length ≤ maxLen := by
  obtain ⟨x, hx, e⟩ := kind_mem N ⟨⟨k⟩⟩ (((keysN_is N).2 ⟨⟨k⟩⟩).1 hk)
  have := hs x hx
  rw [e] at this
  exact this

theorem bl_alloc {w W : World} {x : Obj} (h : Below w.heap.size w W) : Below w.heap.size w (W.alloc x) := h.alloc h.size x
theorem bl_drew {B : Nat} {w W : World} (h : Below B w W) : Below B w W.drew := ⟨h.os, h.tape, h.output, h.size, h.block⟩
theorem bl_step {w W W' : World} (k : Below W.heap.size W W') (h : Below w.heap.size w W) : Below w.heap.size w W' := h.trans (k.mono h.size)
theorem hp_new (w : World) (o : Obj) : (w.alloc o).heap[w.heap.size]? = some o := by rw [alloc_at, if_pos rfl]
theorem hp_alloc {w : World} {x o : Obj} {b : Nat} (h : w.heap[b]? = some o) : (w.alloc x).heap[b]? = some o := by rw [alloc_at, if_neg (by have := blt h; omega)]; exact h
theorem hp_step {W W' : World} {o : Obj} {b : Nat} (k : Below W.heap.size W W') (h : W.heap[b]? = some o) : W'.heap[b]? = some o := (k.block b (blt h)).trans h
theorem hp_drew {w : World} {o : Obj} {b : Nat} (h : w.heap[b]? = some o) : w.drew.heap[b]? = some o := h
/-- Two zero transactions. -/
theorem zz_in {W : World} {g : Nat} {a a' : Option Addr} {c c' : Nat} (h : W.heap[g]? = some (.cells #[.int .i64 0, .int .i64 0, .int .i64 0, .int .i64 0, .slice a 0 c, .int .i64 0, .int .i64 0, .int .i64 0, .int .i64 0, .slice a' 0 c'] 36)) : TxnsIn Any W (.slice (some ⟨g, 0, none⟩) 2 2) [((0, 0, 0, 0, []) : MTxn), ((0, 0, 0, 0, []) : MTxn)] := by
  refine ⟨_, 2, rfl, ⟨by decide, by decide⟩, fun _ => ⟨g, 0, rfl, trivial, fun j hj => ?_⟩⟩
  have hj2 : j = 0 ∨ j = 1 := by
    have : j < 2 := hj
    omega
  rcases hj2 with rfl | rfl
  · refine ⟨[.int .i64 0, .int .i64 0, .int .i64 0, .int .i64 0, .slice a 0 c], rfl, ⟨_, rfl, a, c, rfl, ⟨by decide, Nat.zero_le _⟩, fun h0 => absurd h0 (Nat.lt_irrefl _)⟩, fun i u hi => ?_⟩
    refine (Lib.cell_of_heap h (0 + 0 * 5 + i)).trans ?_
    match i, hi with
    | 0, hi => exact hi
    | 1, hi => exact hi
    | 2, hi => exact hi
    | 3, hi => exact hi
    | 4, hi => exact hi
    | _ + 5, hi => simp at hi
  · refine ⟨[.int .i64 0, .int .i64 0, .int .i64 0, .int .i64 0, .slice a' 0 c'], rfl, ⟨_, rfl, a', c', rfl, ⟨by decide, Nat.zero_le _⟩, fun h0 => absurd h0 (Nat.lt_irrefl _)⟩, fun i u hi => ?_⟩
    refine (Lib.cell_of_heap h (0 + 1 * 5 + i)).trans ?_
    match i, hi with
    | 0, hi => exact hi
    | 1, hi => exact hi
    | 2, hi => exact hi
    | 3, hi => exact hi
    | 4, hi => exact hi
    | _ + 5, hi => simp at hi
theorem zz_same (W : World) (g1 g2 : Nat) (a a' b b' : Option Addr) (c c' d d' : Nat) (h1 : W.heap[g1]? = some (.cells #[.int .i64 0, .int .i64 0, .int .i64 0, .int .i64 0, .slice a 0 c, .int .i64 0, .int .i64 0, .int .i64 0, .int .i64 0, .slice a' 0 c'] 36)) (h2 : W.heap[g2]? = some (.cells #[.int .i64 0, .int .i64 0, .int .i64 0, .int .i64 0, .slice b 0 d, .int .i64 0, .int .i64 0, .int .i64 0, .int .i64 0, .slice b' 0 d'] 36)) :
    Calls Try.prog 19 #[.slice (some ⟨g1, 0, none⟩) 2 2, .slice (some ⟨g2, 0, none⟩) 2 2] W fun e w' => e = .returned (.bool true) ∧ Below W.heap.size W w' :=
  sameTxns_is W [((0, 0, 0, 0, []) : MTxn), ((0, 0, 0, 0, []) : MTxn)] _ _ 2 2 (by decide) (zz_in h1) (zz_in h2)
theorem mk2 (W : World) : (Instr.makeSlice 22 (.int .i64 2) (.int .i64 2)).run Try.prog W = .ok (.slice (some ⟨W.heap.size, 0, none⟩) 2 2) (W.alloc (.cells #[.int .i64 0, .int .i64 0, .int .i64 0, .int .i64 0, .slice none 0 0, .int .i64 0, .int .i64 0, .int .i64 0, .int .i64 0, .slice none 0 0] 36)) := by
  obtain ⟨i0, hi, hz0, hz1, hz2⟩ := info_parts Tx.Try.infoTxn
  have := run_make (P := Try.prog) W 22 36 i0 _ Try.underlying22 hi hz0 .i64 .i64 2 2 (by decide) (by decide) (by rw [hz2]; decide) (by decide)
  rw [this, hz1, show madeCells (Value.cells (.agg #[.int .i64 0, .int .i64 0, .int .i64 0, .int .i64 0, .slice none 0 0])) (Int.toNat 2 * 5) = #[.int .i64 0, .int .i64 0, .int .i64 0, .int .i64 0, .slice none 0 0, .int .i64 0, .int .i64 0, .int .i64 0, .int .i64 0, .slice none 0 0] from (by kernel_rfl)]
  rfl
end Go.Proofs.Ytibplfhkfkeloaa
