/-
  Unique, Count; the document's Writers and Unique.
-/
import Derived.Test.YtgceeecgmnpbhaaTb5
namespace Go.Proofs.Ytgceeecgmnpbhaa
set_option linter.unusedVariables false
set_option linter.unusedSimpArgs false
open Go.RowKit Go.Lib Go.Maps Go.Sort
open Tx (MTxn info_parts flatten_len flatten_get RowsIn.cells RowCells TxnRow TxnsIn setCell_self cloneInts_any OpsOwn)

/-- Are the values unique. -/
theorem uniq_is (B : Nat) (w : World) (tb : Nat) (l : List MTxn) (h : Made B w tb l) : Calls Try.prog 20 #[.pointer (some ⟨tb, 0, none⟩)] w fun e w' => ∃ u : Bool, e = .returned (.bool u) ∧ (u = true ↔ uniqN (notes l l.length)) ∧ w = w' := by
  obtain ⟨kb, wb, lb, tv, kv, F, D, m, u, h1, h2, _⟩ := h
  obtain ⟨_, _, _, _, _, c5⟩ := h1.c
  have HU := hid h2
  clear h1 h2
  go_enter Try.func20, Try.ntmps20
  go_wp2
  go_ret
  exact ⟨u, rfl, HU.out, rfl⟩
theorem count_is (B : Nat) (w : World) (tb : Nat) (l : List MTxn) (h : Made B w tb l) : Calls Try.prog 21 #[.pointer (some ⟨tb, 0, none⟩)] w fun e w' => e = .returned (.int .i64 (l.length : Int)) ∧ w = w' := by
  obtain ⟨kb, wb, lb, tv, kv, F, D, m, u, h1, _, _, _, _, h6, _⟩ := h
  obtain ⟨c0, _⟩ := h1.c
  obtain ⟨ao, c, rfl, _⟩ := h6
  clear h1
  go_enter Try.func21, Try.ntmps21
  go_wp2
  go_ret
  exact ⟨rfl, rfl⟩
theorem Made.later {B : Nat} {w w' : World} {tb : Nat} {l : List MTxn} (h : Made B w tb l) (hb : Below w.heap.size w w') : Made B w' tb l := by
  obtain ⟨kb, wb, lb, tv, kv, F, D, m, u, h1, h2, ⟨ss, h3, h3b⟩, h4, h5, h6, h7⟩ := h
  refine ⟨kb, wb, lb, tv, kv, F, D, m, u, h1.later hb, h2, ⟨ss, own_same h3 (fun g hg => hb.block g (own_block h3 hg).2.1), h3b⟩, h4, fun b hD => ⟨(h5 b hD).1, by have := hb.size; have := (h5 b hD).2.1; omega, (h5 b hD).2.2⟩, h6.keep (keeps_below hb) (fun _ _ x => x), h7⟩

/-! The document's writers. -/
theorem cond_ws {x s : ByteArray} : ((x.toList == s.toList) = true) = (x = s) := by
  apply propext
  rw [beq_iff_eq]
  constructor
  · intro h
    cases x
    cases s
    congr
    rw [ByteArray.toList_eq, ByteArray.toList_eq] at h
    exact Array.ext' h
  · intro h
    rw [h]
end Go.Proofs.Ytgceeecgmnpbhaa
