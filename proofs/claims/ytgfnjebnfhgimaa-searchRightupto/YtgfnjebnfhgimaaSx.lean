/-
  Transactions that came in, plain and in memory.
-/
import Derived.Test.YtgfnjebnfhgimaaM7
namespace Go.Proofs.Ytgfnjebnfhgimaa.Tx
set_option linter.unusedVariables false
set_option linter.unusedSimpArgs false
open Go.RowKit Go.Lib

/-- A transaction, plain: its process, its state, where it begins and ends, its operations. -/
abbrev MTxn := Int × Int × Int × Int × List MOp
abbrev MTxn.proc (t : MTxn) : Int := t.1
abbrev MTxn.state (t : MTxn) : Int := t.2.1
abbrev MTxn.since (t : MTxn) : Int := t.2.2.1
abbrev MTxn.till (t : MTxn) : Int := t.2.2.2.1
abbrev MTxn.ops (t : MTxn) : List MOp := t.2.2.2.2

/-- The five cells of a transaction that is handed in. -/
def TxnRow (S : Nat → Prop) (w : World) (cs : List Value) (t : MTxn) : Prop :=
  ∃ ov, cs = [.int .i64 t.proc, .int .i64 t.state, .int .i64 t.since, .int .i64 t.till, ov] ∧ OpsIn S w ov t.ops
def TxnsIn (S : Nat → Prop) (w : World) (v : Value) (l : List MTxn) : Prop := RowsIn 5 56 (TxnRow S w) S w v l
theorem TxnRow.keep {S T : Nat → Prop} {w w' : World} {cs : List Value} {o : MTxn} (h : TxnRow S w cs o) (hk : KeepsIn S w w') (hT : ∀ b, b < w.heap.size → S b → T b) : TxnRow T w' cs o := by
  obtain ⟨lv, hcs, hl⟩ := h
  exact ⟨lv, hcs, hl.keep hk hT⟩
theorem TxnsIn.keep {S T : Nat → Prop} {w w' : World} {v : Value} {l : List MTxn} (h : TxnsIn S w v l) (hk : KeepsIn S w w') (hT : ∀ b, b < w.heap.size → S b → T b) : TxnsIn T w' v l :=
  RowsIn.keep h (by omega) (fun _ _ hr => TxnRow.keep hr hk hT) hk hT
theorem TxnsIn.below {w w' : World} {v : Value} {l : List MTxn} (h : TxnsIn Any w v l) (hb : Below w.heap.size w w') : TxnsIn Any w' v l := h.keep (keeps_below hb) (fun _ _ _ => trivial)
end Go.Proofs.Ytgfnjebnfhgimaa.Tx
