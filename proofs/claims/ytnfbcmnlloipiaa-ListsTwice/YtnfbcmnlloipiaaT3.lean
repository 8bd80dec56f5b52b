/-
  Transactions, plain and in memory; the walk of assayerplain's Txns: transactions in new memory, each in blocks of its own.
-/
import Derived.Test.YtnfbcmnlloipiaaT2
namespace Go.Proofs.Ytnfbcmnlloipiaa.Tx
set_option linter.unusedVariables false
set_option linter.unusedSimpArgs false
open Go.RowKit Go.Lib

/-- A transaction, plain: its process, its state, where it begins and ends, its operations. -/
abbrev MTxn := Int × Int × Int × Int × List MOp
abbrev MTxn.proc (t : MTxn) : Int := t.1
abbrev MTxn.state (t : MTxn) : Int := t.2.1
abbrev MTxn.since (t : MTxn) : Int := t.2.2.1
abbrev MTxn.till (t : MTxn) : Int := t.2.2.2.1
abbrev MTxn.ops (t : MTxn) : List MOp := t.2.2.2.2

/-- The five cells of a transaction that is handed in. -/
def TxnRow (S : Nat → Prop) (w : World) (cs : List Value) (t : MTxn) : Prop :=
  ∃ ov, cs = [.int .i64 t.proc, .int .i64 t.state, .int .i64 t.since, .int .i64 t.till, ov] ∧ OpsIn S w ov t.ops
def TxnsIn (S : Nat → Prop) (w : World) (v : Value) (l : List MTxn) : Prop := RowsIn 5 56 (TxnRow S w) S w v l
/-- The five cells of one that was made here. -/
def TxnOwn (S : Nat → Prop) (w : World) (cs : List Value) (t : MTxn) : Prop :=
  ∃ ov, cs = [.int .i64 t.proc, .int .i64 t.state, .int .i64 t.since, .int .i64 t.till, ov] ∧ OpsOwn S w ov t.ops
/-- The same, with the blocks that it lies in. -/
def TxnAt (S : Nat → Prop) (w : World) (cs : List Value) (t : MTxn × Nat × Nat) : Prop := TxnOwn (fun b => S b ∧ t.2.1 ≤ b ∧ b < t.2.2) w cs t.1

theorem TxnRow.keep {S T : Nat → Prop} {w w' : World} {cs : List Value} {o : MTxn} (h : TxnRow S w cs o) (hk : KeepsIn S w w') (hT : ∀ b, b < w.heap.size → S b → T b) : TxnRow T w' cs o := by
  obtain ⟨lv, hcs, hl⟩ := h
  exact ⟨lv, hcs, hl.keep hk hT⟩
theorem TxnsIn.keep {S T : Nat → Prop} {w w' : World} {v : Value} {l : List MTxn} (h : TxnsIn S w v l) (hk : KeepsIn S w w') (hT : ∀ b, b < w.heap.size → S b → T b) : TxnsIn T w' v l :=
  RowsIn.keep h (by omega) (fun _ _ hr => TxnRow.keep hr hk hT) hk hT
theorem TxnsIn.below {w w' : World} {v : Value} {l : List MTxn} (h : TxnsIn Any w v l) (hb : Below w.heap.size w w') : TxnsIn Any w' v l := h.keep (keeps_below hb) (fun _ _ _ => trivial)
theorem txnOwn_keep (S T : Nat → Prop) (w w' : World) (cs : List Value) (x : MTxn) (h : TxnOwn S w cs x) (hk : KeepsIn S w w') (hT : ∀ b, b < w.heap.size → S b → T b) : TxnOwn T w' cs x := by
  obtain ⟨ov, hcs, ho⟩ := h
  exact ⟨ov, hcs, ho.keep hk hT⟩
theorem txnAt_keep (S T : Nat → Prop) (w w' : World) (cs : List Value) (x : MTxn × Nat × Nat) (h : TxnAt S w cs x) (hk : KeepsIn S w w') (hT : ∀ b, b < w.heap.size → S b → T b) : TxnAt T w' cs x :=
  txnOwn_keep _ _ _ _ _ _ h (fun b hb hl => hk b hb.1 hl) (fun b hl hb => ⟨hT b hl hb.1, hb.2⟩)

/-- n transactions in a block b, each one's operations in blocks of its own. -/
structure TX (B b : Nat) (D : Nat → Nat → Prop) (w : World) (n : Nat) (f : Nat → MTxn) : Prop where
  le : B ≤ b
  fz : ∀ o, w.frozen? ⟨b, o, none⟩ = false
  far : ∀ j x, D j x → B ≤ x ∧ x ≠ b
  dis : ∀ i j x, D i x → D j x → i = j
  row : ∀ j, j < n → ∃ ov, (∀ i u, ([.int .i64 (f j).proc, .int .i64 (f j).state, .int .i64 (f j).since, .int .i64 (f j).till, ov] : List Value)[i]? = some u → w.cell? ⟨b, j * 5 + i, none⟩ = some u) ∧ OpsOwn (D j) w ov (f j).ops
def TxnsOwn (B : Nat) (w : World) (v : Value) (l : List MTxn) : Prop :=
  ∃ ao c, v = .slice ao l.length c ∧ (l.length * 56 ≤ 140737488355328 ∧ l.length ≤ c) ∧ (0 < l.length → ∃ b D, ao = some ⟨b, 0, none⟩ ∧ TX B b D w l.length (fun j => l.getD j default))

theorem Try.infoTxn : (Try.prog.info? 47).map (fun i => (i.zero, i.size, i.bytes)) = some (some (.agg #[.int .i64 0, .int .i64 0, .int .i64 0, .int .i64 0, .slice none 0 0]), 5, 56) := by kernel_rfl

/-- The blocks of one row come behind those of the rows ahead of it. -/
def Rng (ls : List (MTxn × Nat × Nat)) (n : Nat) : Prop := (∀ i j, i < j → j < ls.length → (ls.getD i default).2.2 ≤ (ls.getD j default).2.1) ∧ ∀ j, j < ls.length → (ls.getD j default).2.2 ≤ n
theorem Rng.nil (n : Nat) : Rng [] n := ⟨fun i j _ h => by simp at h, fun j h => by simp at h⟩
theorem Rng.snoc {ls : List (MTxn × Nat × Nat)} {n m : Nat} (h : Rng ls n) (x : MTxn) (hm : n ≤ m) : Rng (ls ++ [(x, n, m)]) m := by
  have e1 : ∀ j, j < ls.length → (ls ++ [(x, n, m)]).getD j default = ls.getD j default := fun j hj => by simp [List.getD, List.getElem?_append_left hj]
  have e2 : (ls ++ [(x, n, m)]).getD ls.length default = (x, n, m) := by simp [List.getD]
  refine ⟨fun i j hij hj => ?_, fun j hj => ?_⟩
  · simp at hj
    by_cases hjl : j < ls.length
    · rw [e1 i (by omega), e1 j hjl]; exact h.1 i j hij hjl
    · have : j = ls.length := by omega
      subst this
      rw [e1 i hij, e2]; exact h.2 i hij
  · simp at hj
    by_cases hjl : j < ls.length
    · rw [e1 j hjl]; have := h.2 j hjl; omega
    · have : j = ls.length := by omega
      subst this
      rw [e2]; exact Nat.le_refl _
theorem Rng.mono {ls : List (MTxn × Nat × Nat)} {n m : Nat} (h : Rng ls n) (hm : n ≤ m) : Rng ls m := ⟨h.1, fun j hj => Nat.le_trans (h.2 j hj) hm⟩

theorem OutInv.txns {B n : Nat} {wr : World} {v : Value} {rows : List (List Value)} {ls : List (MTxn × Nat × Nat)} {m : Nat} (h : OutInv 47 5 TxnAt B wr v n rows ls) (hr : Rng ls m) (hbytes : n * 56 ≤ 140737488355328) : TxnsOwn B wr v (ls.map Prod.fst) := by
  obtain ⟨ao, c, hv, hl, hc⟩ := OutInv.rows_own txnAt_keep h (bytes := 56) (by rw [← h.ln]; rw [h.ln]; exact hbytes)
  refine ⟨ao, c, by simpa using hv, by simpa using hl, fun h0 => ?_⟩
  obtain ⟨b, ha, hS, hf, hj⟩ := hc (by simpa using h0)
  refine ⟨b, fun j x => j < ls.length ∧ (B ≤ x ∧ x ≠ b) ∧ (ls.getD j default).2.1 ≤ x ∧ x < (ls.getD j default).2.2, ha, hS, hf, fun j x hx => hx.2.1, fun i j x hi hj' => ?_, fun j hjl => ?_⟩
  · apply Classical.byContradiction
    intro hne
    rcases Nat.lt_or_gt_of_ne hne with hlt | hlt
    · have := hr.1 i j hlt hj'.1; have a1 := hi.2.2.2; have a2 := hj'.2.2.1; omega
    · have := hr.1 j i hlt hi.1; have a1 := hj'.2.2.2; have a2 := hi.2.2.1; omega
  · have hjl' : j < ls.length := by simpa using hjl
    obtain ⟨cs, hlen, ⟨ov, hcs, ho⟩, hcc⟩ := hj j hjl'
    have e : (ls.map Prod.fst).getD j default = (ls.getD j default).1 := by simp [List.getD, hjl']
    show ∃ ov, (∀ i u, ([.int .i64 ((ls.map Prod.fst).getD j default).proc, .int .i64 ((ls.map Prod.fst).getD j default).state, .int .i64 ((ls.map Prod.fst).getD j default).since, .int .i64 ((ls.map Prod.fst).getD j default).till, ov] : List Value)[i]? = some u → wr.cell? ⟨b, j * 5 + i, none⟩ = some u) ∧ OpsOwn _ wr ov ((ls.map Prod.fst).getD j default).ops
    rw [e]
    subst hcs
    exact ⟨ov, hcc, ho.keep (fun _ _ _ => rfl) (fun x _ hx => ⟨hjl', hx.1, hx.2⟩)⟩

set_option maxHeartbeats 2000000 in
set_option maxRecDepth 100000 in
theorem txns_walk {S : Nat → Prop} (a1 : Option Addr) (c1 n : Nat) (xs : List MTxn) (w : World) (hx : xs.length = n) (hbytes : n * 56 ≤ 140737488355328)
    (h1 : RowCells 5 (TxnRow S w) w a1 xs n) :
    Calls Try.prog 29 #[.slice a1 n c1] w fun e w' => ∃ v', e = .returned v' ∧ TxnsOwn w.heap.size w' v' xs ∧ Below w.heap.size w w' := by
  obtain ⟨i0, hi, hz0, hz1, hz2⟩ := info_parts Try.infoTxn
  have HX : Hid (xs.length = n) := hx
  clear hx
  go_enter Try.func29, Try.ntmps29
  go_wp2
  go_loopg [3, 5, 8] n (fun g v _ i wr => ∃ (k : Nat) (rows : List (List Value)) (ls : List (MTxn × Nat × Nat)), k ≤ n ∧ n - k ≤ g ∧ i = .int .i64 k ∧ Aside (Below w.heap.size w wr) ∧ Aside (OutInv 47 5 TxnAt w.heap.size wr v k rows ls) ∧ Aside (ls.map Prod.fst = xs.take k ∧ Rng ls wr.heap.size))
  case atStart => exact ⟨0, [], [], Nat.zero_le _, by omega, rfl, Below.refl _ _, OutInv.nil _ _ _ _ _, (⟨by simp, Rng.nil _⟩ : _ ∧ _)⟩
  case round =>
    obtain ⟨k, rows, ls, hk, hg, rfl, BW, I, LS⟩ := hrel
    by_cases hlt : k < n
    · have hlti : (k : Int) < (n : Int) := by omega
      obtain ⟨b1, o1, cs1, rfl, hb1, _, ⟨l1, rfl, i1⟩, k1⟩ := h1 k hlt
      clear h1
      have d0 : wr.cell? ⟨b1, o1 + k * 5, none⟩ = _ := (BW.out.cell (p := ⟨b1, o1 + k * 5, none⟩) hb1).trans (k1 0 _ rfl)
      have d1 := (BW.out.cell (p := ⟨b1, o1 + k * 5 + 1, none⟩) hb1).trans (k1 1 _ rfl)
      have d2 := (BW.out.cell (p := ⟨b1, o1 + k * 5 + 2, none⟩) hb1).trans (k1 2 _ rfl)
      have d3 := (BW.out.cell (p := ⟨b1, o1 + k * 5 + 3, none⟩) hb1).trans (k1 3 _ rfl)
      have d4 := (BW.out.cell (p := ⟨b1, o1 + k * 5 + 4, none⟩) hb1).trans (k1 4 _ rfl)
      clear k1
      have hsz := BW.out.size
      have j1 := i1.keep (keeps_below BW.out) (fun _ _ h => h)
      clear i1
      have HT : Hid (xs.take (k + 1) = xs.take k ++ [xs.getD k default]) := by
        show xs.take (k + 1) = _
        rw [List.take_succ_eq_append_getElem (by rw [HX.out]; exact hlt)]
        simp [List.getD, List.getElem?_eq_getElem (show k < xs.length by rw [HX.out]; exact hlt)]
      generalize xs.getD k default = X at *
      obtain ⟨xk, xs1, xv, xh, xl⟩ := X
      simp only [MTxn.proc, MTxn.state, MTxn.since, MTxn.till, MTxn.ops] at *
      obtain ⟨al1, cl1, rfl, -⟩ := id j1
      go_wp2_with fail
      refine (ops_any (S := S) _ xl _ (j1.keep (keeps_below ((Below.refl _ wr).alloc (Nat.le_refl _) _)) (fun _ _ h => h))).mono ?_
      rintro e w1 ⟨v1, rfl, hv1, hb⟩
      clear d0 d1 d2 d3 d4 j1
      obtain ⟨al, cl, rfl, -⟩ := id hv1
      have hs1 : wr.heap.size + 1 ≤ w1.heap.size := by have := hb.size; simpa using this
      have f0 : w1.cell? ⟨wr.heap.size, 0, none⟩ = some (.int .i64 xk) := (hb.cell (p := ⟨wr.heap.size, 0, none⟩) (by simp)).trans (by simp)
      have f1 : w1.cell? ⟨wr.heap.size, 1, none⟩ = some (.int .i64 xs1) := (hb.cell (p := ⟨wr.heap.size, 1, none⟩) (by simp)).trans (by simp)
      have f2 : w1.cell? ⟨wr.heap.size, 2, none⟩ = some (.int .i64 xv) := (hb.cell (p := ⟨wr.heap.size, 2, none⟩) (by simp)).trans (by simp)
      have f3 : w1.cell? ⟨wr.heap.size, 3, none⟩ = some (.int .i64 xh) := (hb.cell (p := ⟨wr.heap.size, 3, none⟩) (by simp)).trans (by simp)
      have f4 : w1.cell? ⟨wr.heap.size, 4, none⟩ = some (.slice al1 xl.length cl1) := (hb.cell (p := ⟨wr.heap.size, 4, none⟩) (by simp)).trans (by simp)
      have z3 : w1.frozen? ⟨wr.heap.size, 4, none⟩ = false := (hb.frozen (p := ⟨wr.heap.size, 4, none⟩) (by simp)).trans (by simp)
      have HV := hid hv1
      have HB := hid hb
      clear hv1 hb
      have B1 : Below wr.heap.size wr w1 := ((Below.refl _ wr).alloc (Nat.le_refl _) _).trans (HB.out.mono (by simp))
      have HB1 := hid B1
      clear B1
      go_wp2_with (at_builtin; refine wpList_append_lies _ rfl _ _ 22 rfl w.heap.size 47 i0 _ 5 56 Try.underlying22 hi hz0 hz1 hz2 rfl (by decide) u3 k rows.flatten rfl ?hown ⟨w1.heap.size, 0, none⟩ 1 1 [.int .i64 xk, .int .i64 xs1, .int .i64 xv, .int .i64 xh, .slice al xl.length cl] rfl rfl ?hnews ?hone (by decide) ?h63 ?hby ?hbase (w1.heap.size + 1) ?hH ?_)
      case hown => exact I.out.own3 ((HB1.out.setCell (Nat.le_refl _) _).alloc (by simp [World.setCell]; omega) _)
      case hnews => exact World.news_of_block (by simpa [World.setCell] using heap_alloc_new (w1.setCell ⟨wr.heap.size, 4, none⟩ (.slice al xl.length cl)) (.cells #[.int .i64 xk, .int .i64 xs1, .int .i64 xv, .int .i64 xh, .slice al xl.length cl] 47))
      case hone => intro u hu; simp at hu; rcases hu with rfl | rfl | rfl | rfl | rfl <;> rfl
      case h63 => unfold maxLen; omega
      case hby => omega
      case hbase => simp [World.setCell]; omega
      case hH => simp [World.setCell]
      intro g cap w4 hown4 hgrow hat hglt
      have B3 : Below wr.heap.size wr ((w1.setCell ⟨wr.heap.size, 4, none⟩ (.slice al xl.length cl)).alloc (.cells #[.int .i64 xk, .int .i64 xs1, .int .i64 xv, .int .i64 xh, .slice al xl.length cl] 47)) := (HB1.out.setCell (Nat.le_refl _) _).alloc (by simp [World.setCell]; omega) _
      have hrow : TxnAt (fun b => wr.heap.size < b) ((w1.setCell ⟨wr.heap.size, 4, none⟩ (.slice al xl.length cl)).alloc (.cells #[.int .i64 xk, .int .i64 xs1, .int .i64 xv, .int .i64 xh, .slice al xl.length cl] 47)) [.int .i64 xk, .int .i64 xs1, .int .i64 xv, .int .i64 xh, .slice al xl.length cl] ((xk, xs1, xv, xh, xl), wr.heap.size, w1.heap.size) := by
        refine ⟨_, rfl, HV.out.keep (fun b hb hbl => ?_) (fun b hbl hb => ?_)⟩
        · have hb' : wr.heap.size + 1 ≤ b := by simpa using hb
          rw [Below.heap_alloc _ _ _ (by simpa [World.setCell] using hbl), Below.heap_setCell _ _ _ _ (by simp; omega)]
        · have hb' : wr.heap.size + 1 ≤ b := by simpa using hb
          exact ⟨by omega, (show wr.heap.size ≤ b by omega), hbl⟩
      have hbw4 : Below w.heap.size w w4 := BW.out.trans ((B3.mono hsz).grown hgrow (by simp [World.setCell]; omega) (fun x hx => (I.out.own.lt x hx).1))
      have I4 := hid (OutInv.step txnAt_keep I.out hsz B3 hrow rfl hown4 hgrow (by simpa [World.setCell] using hat))
      have LS4 : Hid ((ls ++ [((xk, xs1, xv, xh, xl), wr.heap.size, w1.heap.size)]).map Prod.fst = xs.take (k + 1) ∧ Rng (ls ++ [((xk, xs1, xv, xh, xl), wr.heap.size, w1.heap.size)]) w4.heap.size) :=
        ⟨by rw [List.map_append, LS.out.1, HT.out]; rfl, (LS.out.2.snoc _ (by omega)).mono (by have := hgrow.size; simp [World.setCell] at this; omega)⟩
      have HBW4 := hid hbw4
      clear hown4 hgrow hat B3 hrow hbw4 f0 f1 f2 f3 f4 z3
      go_wp2_with fail
      go_roundg (n - (k + 1))
      case measure => omega
      case rel => exact ⟨k + 1, rows ++ [_], _, by omega, by omega, by go_num, HBW4.out, I4.out, LS4.out⟩
    · go_wp2
      go_ret
      have hkn : k = n := by omega
      subst hkn
      have e := LS.out.1
      rw [← HX.out, List.take_length] at e
      refine ⟨_, rfl, ?_, BW.out⟩
      rw [← e]
      exact OutInv.txns I.out LS.out.2 hbytes

theorem txns_any {S : Nat → Prop} (v : Value) (l : List MTxn) (w : World) (h : TxnsIn S w v l) :
    Calls Try.prog 29 #[v] w fun e w' => ∃ v', e = .returned v' ∧ TxnsOwn w.heap.size w' v' l ∧ Below w.heap.size w w' := by
  obtain ⟨a1, c1, rfl, l1, k1⟩ := RowsIn.cells h (by omega)
  exact txns_walk a1 c1 l.length l w rfl l1.1 k1
end Go.Proofs.Ytnfbcmnlloipiaa.Tx
