/-
  Transactions, plain and in memory; the walk of assayerplain's Txns: transactions in new memory, each in blocks of its own.
-/
import Derived.Test.YtgceeecgmnpbhaaT2
namespace Go.Proofs.Ytgceeecgmnpbhaa.Tx
set_option linter.unusedVariables false
set_option linter.unusedSimpArgs false
open Go.RowKit Go.Lib

/-- A transaction, plain: its process, its state, where it begins and ends, its operations. -/
abbrev MTxn := Int × Int × Int × Int × List MOp
abbrev MTxn.proc (t : MTxn) : Int := t.1
abbrev MTxn.state (t : MTxn) : Int := t.2.1
abbrev MTxn.since (t : MTxn) : Int := t.2.2.1
abbrev MTxn.till (t : MTxn) : Int := t.2.2.2.1
abbrev MTxn.ops (t : MTxn) : List MOp := t.2.2.2.2

/-- The five cells of a transaction that is handed in. -/
def TxnRow (S : Nat → Prop) (w : World) (cs : List Value) (t : MTxn) : Prop :=
  ∃ ov, cs = [.int .i64 t.proc, .int .i64 t.state, .int .i64 t.since, .int .i64 t.till, ov] ∧ OpsIn S w ov t.ops
def TxnsIn (S : Nat → Prop) (w : World) (v : Value) (l : List MTxn) : Prop := RowsIn 5 56 (TxnRow S w) S w v l
/-- The five cells of one that was made here. -/
def TxnOwn (S : Nat → Prop) (w : World) (cs : List Value) (t : MTxn) : Prop :=
  ∃ ov, cs = [.int .i64 t.proc, .int .i64 t.state, .int .i64 t.since, .int .i64 t.till, ov] ∧ OpsOwn S w ov t.ops
/-- The same, with the blocks that it lies in. -/
def TxnAt (S : Nat → Prop) (w : World) (cs : List Value) (t : MTxn × Nat × Nat) : Prop := TxnOwn (fun b => S b ∧ t.2.1 ≤ b ∧ b < t.2.2) w cs t.1

theorem TxnRow.keep {S T : Nat → Prop} {w w' : World} {cs : List Value} {o : MTxn} (h : TxnRow S w cs o) (hk : KeepsIn S w w') (hT : ∀ b, b < w.heap.size → S b → T b) : TxnRow T w' cs o := by
  obtain ⟨lv, hcs, hl⟩ := h
  exact ⟨lv, hcs, hl.keep hk hT⟩
theorem TxnsIn.keep {S T : Nat → Prop} {w w' : World} {v : Value} {l : List MTxn} (h : TxnsIn S w v l) (hk : KeepsIn S w w') (hT : ∀ b, b < w.heap.size → S b → T b) : TxnsIn T w' v l :=
  RowsIn.keep h (by omega) (fun _ _ hr => TxnRow.keep hr hk hT) hk hT
theorem TxnsIn.below {w w' : World} {v : Value} {l : List MTxn} (h : TxnsIn Any w v l) (hb : Below w.heap.size w w') : TxnsIn Any w' v l := h.keep (keeps_below hb) (fun _ _ _ => trivial)
theorem txnOwn_keep (S T : Nat → Prop) (w w' : World) (cs : List Value) (x : MTxn) (h : TxnOwn S w cs x) (hk : KeepsIn S w w') (hT : ∀ b, b < w.heap.size → S b → T b) : TxnOwn T w' cs x := by
  obtain ⟨ov, hcs, ho⟩ := h
  exact ⟨ov, hcs, ho.keep hk hT⟩
theorem txnAt_keep (S T : Nat → Prop) (w w' : World) (cs : List Value) (x : MTxn × Nat × Nat) (h : TxnAt S w cs x) (hk : KeepsIn S w w') (hT : ∀ b, b < w.heap.size → S b → T b) : TxnAt T w' cs x :=
  txnOwn_keep _ _ _ _ _ _ h (fun b hb hl => hk b hb.1 hl) (fun b hl hb => ⟨hT b hl hb.1, hb.2⟩)

/-- n transactions in a block b, each one's operations in blocks of its own. -/
structure TX (B b : Nat) (D : Nat → Nat → Prop) (w : World) (n : Nat) (f : Nat → MTxn) : Prop where
  le : B ≤ b
  fz : ∀ o, w.frozen? ⟨b, o, none⟩ = false
  far : ∀ j x, D j x → B ≤ x ∧ x ≠ b
  dis : ∀ i j x, D i x → D j x → i = j
  row : ∀ j, j < n → ∃ ov, (∀ i u, ([.int .i64 (f j).proc, .int .i64 (f j).state, .int .i64 (f j).since, .int .i64 (f j).till, ov] : List Value)[i]? = some u → w.cell? ⟨b, j * 5 + i, none⟩ = some u) ∧ OpsOwn (D j) w ov (f j).ops
def TxnsOwn (B : Nat) (w : World) (v : Value) (l : List MTxn) : Prop :=
  ∃ ao c, v = .slice ao l.length c ∧ (l.length * 56 ≤ 140737488355328 ∧ l.length ≤ c) ∧ (0 < l.length → ∃ b D, ao = some ⟨b, 0, none⟩ ∧ TX B b D w l.length (fun j => l.getD j default))

theorem Try.infoTxn : (Try.prog.info? 43).map (fun i => (i.zero, i.size, i.bytes)) = some (some (.agg #[.int .i64 0, .int .i64 0, .int .i64 0, .int .i64 0, .slice none 0 0]), 5, 56) := by kernel_rfl

/-- The blocks of one row come behind those of the rows ahead of it. -/
def Rng (ls : List (MTxn × Nat × Nat)) (n : Nat) : Prop := (∀ i j, i < j → j < ls.length → (ls.getD i default).2.2 ≤ (ls.getD j default).2.1) ∧ ∀ j, j < ls.length → (ls.getD j default).2.2 ≤ n
theorem Rng.nil (n : Nat) : Rng [] n := ⟨fun i j _ h => by simp at h, fun j h => by simp at h⟩
theorem Rng.snoc {ls : List (MTxn × Nat × Nat)} {n m : Nat} (h : Rng ls n) (x : MTxn) (hm : n ≤ m) : Rng (ls ++ [(x, n, m)]) m := by
  have e1 : ∀ j, j < ls.length → (ls ++ [(x, n, m)]).getD j default = ls.getD j default := fun j hj => by simp [List.getD, List.getElem?_append_left hj]
  have e2 : (ls ++ [(x, n, m)]).getD ls.length default = (x, n, m) := by simp [List.getD]
  refine ⟨fun i j hij hj => ?_, fun j hj => ?_⟩
  · simp at hj
    by_cases hjl : j < ls.length
    · rw [e1 i (by omega), e1 j hjl]; exact h.1 i j hij hjl
    · have : j = ls.length := by omega
      subst this
      rw [e1 i hij, e2]; exact h.2 i hij
  · simp at hj
    by_cases hjl : j < ls.length
    · rw [e1 j hjl]; have := h.2 j hjl; omega
    · have : j = ls.length := by omega
      subst this
      rw [e2]; exact Nat.le_refl _
theorem Rng.mono {ls : List (MTxn × Nat × Nat)} {n m : Nat} (h : Rng ls n) (hm : n ≤ m) : Rng ls m := ⟨h.1, fun j hj => Nat.le_trans (h.2 j hj) hm⟩

theorem OutInv.txns {B n : Nat} {wr : World} {v : Value} {rows : List (List Value)} {ls : List (MTxn × Nat × Nat)} {m : Nat} (h : OutInv 43 5 TxnAt B wr v n rows ls) (hr : Rng ls m) (hbytes : n * 56 ≤ 140737488355328) : TxnsOwn B wr v (ls.map Prod.fst) := by
  obtain ⟨ao, c, hv, hl, hc⟩ := OutInv.rows_own txnAt_keep h (bytes := 56) (by rw [← h.ln]; rw [h.ln]; exact hbytes)
  refine ⟨ao, c, by simpa using hv, by simpa using hl, fun h0 => ?_⟩
  obtain ⟨b, ha, hS, hf, hj⟩ := hc (by simpa using h0)
  refine ⟨b, fun j x => j < ls.length ∧ (B ≤ x ∧ x ≠ b) ∧ (ls.getD j default).2.1 ≤ x ∧ x < (ls.getD j default).2.2, ha, hS, hf, fun j x hx => hx.2.1, fun i j x hi hj' => ?_, fun j hjl => ?_⟩
  · apply Classical.byContradiction
    intro hne
    rcases Nat.lt_or_gt_of_ne hne with hlt | hlt
    · have := hr.1 i j hlt hj'.1; have a1 := hi.2.2.2; have a2 := hj'.2.2.1; omega
    · have := hr.1 j i hlt hi.1; have a1 := hj'.2.2.2; have a2 := hi.2.2.1; omega
  · have hjl' : j < ls.length := by simpa using hjl
    obtain ⟨cs, hlen, ⟨ov, hcs, ho⟩, hcc⟩ := hj j hjl'
    have e : (ls.map Prod.fst).getD j default = (ls.getD j default).1 := by simp [List.getD, hjl']
    show ∃ ov, (∀ i u, ([.int .i64 ((ls.map Prod.fst).getD j default).proc, .int .i64 ((ls.map Prod.fst).getD j default).state, .int .i64 ((ls.map Prod.fst).getD j default).since, .int .i64 ((ls.map Prod.fst).getD j default).till, ov] : List Value)[i]? = some u → wr.cell? ⟨b, j * 5 + i, none⟩ = some u) ∧ OpsOwn _ wr ov ((ls.map Prod.fst).getD j default).ops
    rw [e]
    subst hcs
    exact ⟨ov, hcc, ho.keep (fun _ _ _ => rfl) (fun x _ hx => ⟨hjl', hx.1, hx.2⟩)⟩

end Go.Proofs.Ytgceeecgmnpbhaa.Tx
