/-
  The law TableUnique.
  The document's keys, one by one; transactions within the bounds, out of Small.
  The document's reads of a list.
-/
import Derived.Test.YtnfbcmnlloipiaaV8
import Derived.Test.YtnfbcmnlloipiaaV11
import Derived.Test.YtnfbcmnlloipiaaV15
namespace Go.Proofs.Ytnfbcmnlloipiaa
set_option linter.unusedVariables false
set_option linter.unusedSimpArgs false
open Go.RowKit Go.Lib Go.Maps Go.Sort
open Tx (MTxn info_parts flatten_len flatten_get RowsIn.cells RowCells TxnRow TxnsIn TxnsOwn setCell_self cloneInts_any OpsOwn smallL cutTxn cutOp)

/-- The cells of a transaction. -/
def txC (t : MTxn) (ov : Value) : List Value := [.int .i64 t.proc, .int .i64 t.state, .int .i64 t.since, .int .i64 t.till, ov]
/-- A row more behind those of a clone. -/
theorem rows_more {S : Nat → Prop} {w w4 : World} {B : Nat} {rows : List (List Value)} {l : List MTxn} {x : MTxn} {ov v' : Value} (h1 : rows.length = l.length) (h2 : ∀ r ∈ rows, r.length = 5) (h3 : ∀ j, j < l.length → TxnRow S w (rows.getD j []) (l.getD j default)) (hx : OpsIn S w ov x.ops) (hb : Below w.heap.size w w4) (hn : (l.length + 1) * 56 ≤ 140737488355328)
    (ho : w4.ownsRow B 47 5 v' (l.length + 1) (rows.flatten ++ txC x ov)) : TxnsIn S w4 v' (l ++ [x]) ∨ ¬ (∀ b, S b) := by
  by_cases hS : ∀ b, S b
  · left
    have hR : Rows1 5 47 (TxnRow S w4) B w4 v' (l ++ [x]) := by
      refine ⟨rows ++ [txC x ov], by simp [h1], fun r hr => ?_, fun j hj => ?_, by rw [List.length_append, List.flatten_append]; simpa using ho⟩
      · rcases List.mem_append.1 hr with hr | hr
        · exact h2 r hr
        · obtain rfl : r = txC x ov := by simpa using hr
          rfl
      · by_cases e : j < l.length
        · have e1 : (rows ++ [txC x ov]).getD j [] = rows.getD j [] := by simp [List.getD, List.getElem?_append_left (show j < rows.length by omega)]
          have e2 : (l ++ [x]).getD j default = l.getD j default := by simp [List.getD, List.getElem?_append_left e]
          rw [e1, e2]
          exact (h3 j e).keep (keeps_below hb) (fun _ _ h => h)
        · have ej : j = l.length := by simp at hj; omega
          subst ej
          have e1 : (rows ++ [txC x ov]).getD l.length [] = txC x ov := by rw [← h1]; simp [List.getD]
          have e2 : (l ++ [x]).getD l.length default = x := by simp [List.getD]
          rw [e1, e2]
          exact ⟨ov, rfl, hx.keep (keeps_below hb) (fun _ _ h => h)⟩
    obtain ⟨g, c, hv, hc, _, _, _, hrow⟩ := hR.cell (by simp)
    refine ⟨_, c, hv, ⟨by rw [List.length_append]; exact hn, hc⟩, fun _ => ⟨g, 0, rfl, hS g, fun j hj => ?_⟩⟩
    obtain ⟨cs, q1, q2, q3⟩ := hrow j hj
    exact ⟨cs, q1, q2, fun i u hi => by rw [Nat.zero_add]; exact q3 i u hi⟩
  · exact .inr hS
theorem more_txns {W w6 : World} {B : Nat} {rows : List (List Value)} {l : List MTxn} {x : MTxn} {ov v' : Value} (h1 : rows.length = l.length) (h2 : ∀ r ∈ rows, r.length = 5) (h3 : ∀ j, j < l.length → TxnRow Any W (rows.getD j []) (l.getD j default)) (hx : OpsIn Any W ov x.ops) (hb : Below W.heap.size W w6) (hn : l.length ≤ 1000)
    (ho : w6.ownsRow B 47 5 v' (l.length + 1) (rows.flatten ++ txC x ov)) : TxnsIn Any w6 v' (l ++ [x]) :=
  (rows_more h1 h2 h3 hx hb (by omega) ho).resolve_right (fun c => c (fun _ => trivial))
end Go.Proofs.Ytnfbcmnlloipiaa
namespace Go.Proofs.Ytnfbcmnlloipiaa
set_option linter.unusedVariables false
set_option linter.unusedSimpArgs false
open Go.RowKit Go.Lib Go.Maps Go.Sort
open Tx (MTxn smallL cutTxn cutOp)

theorem kind_mem (N : List MN) (s : ByteArray) (h : kindN N s ≠ 0) : ∃ x ∈ N, x.2.2.key = s := by
  unfold kindN at h
  cases hf : N.find? (fun x => decide (x.2.2.key = s ∧ thing x.2.2.kind ≠ 0)) with
  | none => rw [hf] at h; exact absurd rfl h
  | some y =>
    have hd := List.find?_some hf
    exact ⟨y, List.mem_of_find?_eq_some hf, (of_decide_eq_true hd).1⟩
/-- A key of the document's row: a text that is not too long, of a kind. -/
theorem key_at {l : List MTxn} (hG : Good l) {B : Nat} {w : World} {g c : Nat} (h : SRow B w (.slice (some ⟨g, 0, none⟩) (keysN (notes l l.length) []).length c) (keysN (notes l l.length) [])) (q : Nat) (hq : q < (keysN (notes l l.length) []).length) : ∃ s : ByteArray, w.cell? ⟨g, q, none⟩ = some (.string s) ∧ s.size ≤ maxLen ∧ kindN (notes l l.length) s ≠ 0 := by
  obtain ⟨s, h1, h2⟩ := str_of ((keysN (notes l l.length) []).getD q default)
  have hm : s.data.toList ∈ keysN (notes l l.length) [] := by
    rw [h2]
    simp [List.getD, List.getElem?_eq_getElem hq]
  have hk := ((keysN_is (notes l l.length)).2 s).1 hm
  obtain ⟨x, hx, e⟩ := kind_mem _ s hk
  obtain ⟨t, ht, ho⟩ := notes_op hx
  have hs := (hG.ok t ht _ ho).1
  rw [e] at hs
  exact ⟨s, (srow_cell h q hq).trans (by rw [h1]), Nat.le_trans hs (by unfold maxLen; omega), hk⟩
theorem small_list {l : List MTxn} (hl : ∀ t ∈ l, ∀ o ∈ t.ops, ∀ x ∈ o.list, (Lit.int .i64 x).wf = true) {t : MTxn} (h : t ∈ smallL l) : ∀ o ∈ t.ops, (∀ x ∈ o.list, (Lit.int .i64 x).wf = true) ∧ o.list.length ≤ 100000 := by
  obtain ⟨t0, h0, rfl⟩ := small_mem h
  intro o ho
  have ho' : o ∈ (t0.ops.take 10).map cutOp := ho
  obtain ⟨o0, h1, rfl⟩ := List.mem_map.1 ho'
  refine ⟨fun x hx => ?_, ?_⟩
  · have hx' : x ∈ o0.list.take 40 := hx
    exact hl t0 h0 o0 (List.mem_of_mem_take h1) x (List.mem_of_mem_take hx')
  · show (o0.list.take 40).length ≤ _
    rw [List.length_take]
    omega
theorem small_good {l : List MTxn} (hok : ∀ t ∈ l, ∀ o ∈ t.ops, OpOk o) (hl : ∀ t ∈ l, ∀ o ∈ t.ops, ∀ x ∈ o.list, (Lit.int .i64 x).wf = true) : Good (smallL l) :=
  ⟨Nat.le_trans (small_len l) (by omega), fun t h => small_ten h, fun t h => small_ok hok h, fun t h o ho => (small_list hl h o ho).1, fun t h o ho => (small_list hl h o ho).2⟩
theorem Good.more {l : List MTxn} (h : Good l) {x : MTxn} (hx : x ∈ l) (hl : l.length ≤ 999) : Good (l ++ [x]) := by
  have mem : ∀ t, t ∈ l ++ [x] → t ∈ l := fun t ht => by
    rcases List.mem_append.1 ht with h | h
    · exact h
    · obtain rfl : t = x := by simpa using h
      exact hx
  exact ⟨by simp; omega, fun t ht => h.ten t (mem t ht), fun t ht => h.ok t (mem t ht), fun t ht => h.wl t (mem t ht), fun t ht => h.sz t (mem t ht)⟩
end Go.Proofs.Ytnfbcmnlloipiaa
namespace Go.Proofs.Ytnfbcmnlloipiaa
set_option linter.unusedVariables false
set_option linter.unusedSimpArgs false
open Go.RowKit Go.Lib Go.Maps Go.Sort
open Tx (MTxn info_parts RowsIn.cells RowCells TxnRow TxnsIn)

theorem Try.infoRd : (Try.prog.info? 87).map (fun i => (i.zero, i.size, i.bytes)) = some (some (.agg #[.int .i64 0, .int .i64 0, .slice none 0 0]), 3, 40) := by kernel_rfl
set_option maxHeartbeats 8000000 in
set_option maxRecDepth 100000 in
theorem reads_is (w : World) (v : Value) (l : List MTxn) (s : ByteArray) (h : TxnsIn Any w v l) (hG : Good l) :
    Calls Try.prog 38 #[v, .string s] w fun e w' => ∃ v' R, e = .returned v' ∧ w'.ownsRow w.heap.size 87 3 v' R.length (rdC R) ∧ RdsD Any w R (rdsN l s (notes l l.length)) ∧ Below w.heap.size w w' := by
  obtain ⟨i0, hi0, hz0, hz1, hz2⟩ := info_parts Try.infoRd
  obtain ⟨a1, c1, rfl, l1, k1⟩ := RowsIn.cells h (by omega)
  have HI0 := hid hi0
  have HZ0 := hid hz0
  have HZ1 := hid hz1
  have HZ2 := hid hz2
  have HC := hid k1
  have HG := hid hG
  have hl : l.length ≤ 1000 := hG.len
  have hli : (l.length : Int) ≤ 1000 := by omega
  clear h hi0 hz0 hz1 hz2 k1 hG
  go_enter Try.func38, Try.ntmps38
  go_wp2_with fail
  go_loopg [5, 6, 7, 8, 9, 12] l.length (fun gg out _ _ _ _ i wr => ∃ k : Nat, k ≤ l.length ∧ l.length - k ≤ gg ∧ i = .int .i64 k ∧ Aside (Below w.heap.size w wr) ∧ Aside (∃ R, wr.ownsRow w.heap.size 87 3 out R.length (rdC R) ∧ RdsD Any w R (rdsN l s (notes l k))))
  case atStart => exact ⟨0, Nat.zero_le _, by omega, rfl, Below.refl _ _, ⟨[], World.ownsRow_nil _ _ _ _, rfl, fun j hj => by simp at hj⟩⟩
  case round =>
    obtain ⟨k, hk, hgk, rfl, BR, OR⟩ := hrel
    by_cases hlt : k < l.length
    · have hlti : (k : Int) < l.length := by omega
      obtain ⟨b, o, cs, rfl, hbl, _, ⟨ov, hcs, hops⟩, hcell⟩ := HC.out k hlt
      subst hcs
      obtain ⟨oa, oc, hov, hol, hoc⟩ := id hops
      subst hov
      have hmem : l.getD k default ∈ l := by simp [List.getD, List.getElem?_eq_getElem hlt]
      have d0 := (BR.out.cell (p := ⟨b, o + k * 5 + 0, none⟩) hbl).trans (hcell 0 _ rfl)
      have d1 := (BR.out.cell (p := ⟨b, o + k * 5 + 1, none⟩) hbl).trans (hcell 1 _ rfl)
      have d2 := (BR.out.cell (p := ⟨b, o + k * 5 + 2, none⟩) hbl).trans (hcell 2 _ rfl)
      have d3 := (BR.out.cell (p := ⟨b, o + k * 5 + 3, none⟩) hbl).trans (hcell 3 _ rfl)
      have d4 := (BR.out.cell (p := ⟨b, o + k * 5 + 4, none⟩) hbl).trans (hcell 4 _ rfl)
      rw [Nat.add_zero] at d0
      have hten : (l.getD k default).ops.length ≤ 10 := HG.out.ten _ hmem
      have HWT : Hid (∀ o ∈ (l.getD k default).ops, ∀ x ∈ o.list, (Lit.int .i64 x).wf = true) := HG.out.wl _ hmem
      have hNl := notes_len l HG.out.ten k
      have HNT : Hid (notes l (k + 1) = notes l k ++ notesT k (l.getD k default).ops) := rfl
      have HOC := hid hoc
      obtain ⟨st, hst⟩ : ∃ st, (l.getD k default).state = st := ⟨_, rfl⟩
      have HST := hid hst
      rw [hst] at d1
      have BN : ∀ x, Hid (Below w.heap.size w (wr.alloc x)) := fun x => BR.out.trans ((below_box wr _).mono BR.out.size)
      have ON : ∀ y, Hid (∃ R, (wr.alloc y).ownsRow w.heap.size 87 3 u5 R.length (rdC R) ∧ RdsD Any w R (rdsN l s (notes l k))) := fun y => by
        obtain ⟨R, h1, h2⟩ := OR.out
        exact ⟨R, own_same h1 (fun g hg => by rw [alloc_at, if_neg (by have := (own_block h1 hg).2.1; omega)]), h2⟩
      obtain ⟨T, hT⟩ : ∃ T, (l.getD k default).ops = T := ⟨_, rfl⟩
      rw [hT] at d4 hten HWT HNT HOC
      generalize (l.getD k default).proc = xp at d0
      generalize (l.getD k default).since = xf at d2
      generalize (l.getD k default).till = xt at d3
      clear hcell hops hoc hmem hT hst
      go_wp2_with fail
      have hTi : (T.length : Int) ≤ 10 := by omega
      have X3 : Hid ((wr.alloc (.cells #[.int .i64 xp, .int .i64 st, .int .i64 xf, .int .i64 xt, .slice oa T.length oc] 47)).heap[wr.heap.size]? = some (.cells #[.int .i64 xp, .int .i64 st, .int .i64 xf, .int .i64 xt, .slice oa T.length oc] 47)) := heap_alloc_new wr _
      have BN3 := BN (.cells #[.int .i64 xp, .int .i64 st, .int .i64 xf, .int .i64 xt, .slice oa T.length oc] 47)
      have ON3 := ON (.cells #[.int .i64 xp, .int .i64 st, .int .i64 xf, .int .i64 xt, .slice oa T.length oc] 47)
      clear BN ON BR OR d0 d1 d2 d3 d4
      generalize wr.alloc (.cells #[.int .i64 xp, .int .i64 st, .int .i64 xf, .int .i64 xt, .slice oa T.length oc] 47) = W3 at *
      generalize wr.heap.size = xb at *
      go_loopg [5, 8, 9, 20] T.length (fun gg out _ _ i wi => ∃ j : Nat, j ≤ T.length ∧ T.length - j ≤ gg ∧ i = .int .i64 j ∧ Aside (Below w.heap.size w wi ∧ wi.heap[xb]? = W3.heap[xb]?) ∧ Aside (∃ R, wi.ownsRow w.heap.size 87 3 out R.length (rdC R) ∧ RdsD Any w R (rdsN l s (notes l k ++ (notesT k T).take j))))
      case atStart => exact ⟨0, Nat.zero_le _, by omega, rfl, ⟨BN3.out, rfl⟩, (by rw [List.take_zero, List.append_nil]; exact ON3.out)⟩
      case round =>
        obtain ⟨j, hj, hgj, rfl, BJ0, OJ⟩ := hrel
        obtain ⟨bj, bx47⟩ := BJ0.out
        have BX := hid bx47
        have BX47 := hid (bx47.trans X3.out)
        have cst : wr.cell? ⟨xb, 1, none⟩ = some (.int .i64 st) := Lib.cell_of_heap BX47.out 1
        clear bx47
        have BJ := hid bj
        by_cases hjl : j < T.length
        · have hjli : (j : Int) < T.length := by omega
          obtain ⟨ob, oo, rfl, _, hcs⟩ := HOC.out (by omega)
          obtain ⟨cs, _, ⟨lv, hcse, hli2⟩, hcell⟩ := hcs j hjl
          subst hcse
          obtain ⟨la, lc, rfl, _⟩ := id hli2
          have hobl := World.block_lt_of_cell? _ _ (hcell 0 _ rfl)
          have x0 := (BJ.out.cell (p := ⟨ob, oo + j * 6 + 0, none⟩) hobl).trans (hcell 0 _ rfl)
          have x1 := (BJ.out.cell (p := ⟨ob, oo + j * 6 + 1, none⟩) hobl).trans (hcell 1 _ rfl)
          have x2 := (BJ.out.cell (p := ⟨ob, oo + j * 6 + 2, none⟩) hobl).trans (hcell 2 _ rfl)
          have x3 := (BJ.out.cell (p := ⟨ob, oo + j * 6 + 3, none⟩) hobl).trans (hcell 3 _ rfl)
          have x4 := (BJ.out.cell (p := ⟨ob, oo + j * 6 + 4, none⟩) hobl).trans (hcell 4 _ rfl)
          have x5 := (BJ.out.cell (p := ⟨ob, oo + j * 6 + 5, none⟩) hobl).trans (hcell 5 _ rfl)
          rw [Nat.add_zero] at x0
          have hOm : T.getD j default ∈ T := by simp [List.getD, List.getElem?_eq_getElem hjl]
          have HLW : Hid (∀ x ∈ (T.getD j default).list, (Lit.int .i64 x).wf = true) := HWT.out _ hOm
          have HIN : Hid (IntsIn Any w (.slice la (T.getD j default).list.length lc) (T.getD j default).list) := hli2
          have HTJ : Hid (rdsN l s (notes l k ++ (notesT k T).take (j + 1)) = rdsN l s (notes l k ++ (notesT k T).take j) ++ (if isRd s st (T.getD j default) then [(k, j, (T.getD j default).list)] else [])) := by
            show _ = _
            rw [notesT_take k T j hjl, ← List.append_assoc, rds_snoc]
            show _ ++ (if isRd s (l.getD k default).state (T.getD j default) then _ else _) = _
            rw [HST.out]
          obtain ⟨R, hR1, hR2⟩ := OJ.out
          obtain ⟨ra, rc, hrv⟩ := own_slice hR1
          subst hrv
          have hRl : R.length ≤ 20000 := by
            rw [hR2.len]
            have := rds_len l s (notes l k ++ (notesT k T).take j)
            rw [List.length_append, List.length_take, notesT_len] at this
            omega
          obtain ⟨RN, hRN⟩ : ∃ RN, rdsN l s (notes l k ++ (notesT k T).take (j + 1)) = RN := ⟨_, rfl⟩
          have HRN := hid hRN
          rw [hRN] at HTJ
          have OR1 := hid hR1
          have OR2 := hid hR2
          clear hcell hcs hli2 hOm hR1 hR2 hRN OJ BJ0
          generalize rdsN l s (notes l k ++ (notesT k T).take j) = RJ at *
          generalize T.getD j default = O at *
          obtain ⟨ok, os, ov, ol, oh, on⟩ := O
          simp only [MOp.kind, MOp.key, MOp.value, MOp.list, MOp.has, MOp.nl] at x0 x1 x2 x3 x4 x5 HLW HIN HTJ
          have hwrs : w.heap.size ≤ wr.heap.size := BJ.out.size
          have hcl : xb < wr.heap.size := World.block_lt_of_cell? _ _ cst
          have hne : ¬ (xb = wr.heap.size) := by omega
          have xa : ∀ o, (wr.alloc o).cell? ⟨xb, 1, none⟩ = some (.int .i64 st) := fun o => Lib.cell?_alloc_some _ cst
          have BN : ∀ x, Hid (Below w.heap.size w (wr.alloc x)) := fun x => BJ.out.trans ((below_box wr _).mono hwrs)
          have ON : ∀ y, Hid ((wr.alloc y).ownsRow w.heap.size 87 3 (.slice ra R.length rc) R.length (rdC R)) := fun y => own_same OR1.out (fun g hg => by rw [alloc_at, if_neg (by have := (own_block OR1.out hg).2.1; omega)])
          have XA : ∀ o, Hid ((wr.alloc o).heap[xb]? = W3.heap[xb]?) := fun o => by show _ = _; rw [alloc_at, if_neg hne]; exact BX.out
          have XOWN : (Value.slice ra R.length rc).ownBlock ≠ some xb := fun e => by
            obtain ⟨_, _, cs, hc⟩ := own_block OR1.out e
            have := BX47.out
            rw [hc] at this
            injection this with this
            injection this with _ this
            exact absurd this (by decide)
          have SK : isRd s st (ok, os, ov, ol, oh, on) = false → Hid (RN = RJ) := fun hc => by
            show RN = RJ
            rw [HTJ.out, hc]
            simp
          by_cases h1 : st = 1
          · subst h1
            by_cases h2 : ok = 2
            · subst h2
              cases oh with
              | false =>
                have hh := SK (by simp [isRd, MOp.has])
                clear SK HTJ
                go_wp2_with fail
                go_roundg (T.length - (j + 1))
                case measure => omega
                case rel => exact ⟨j + 1, by omega, by omega, by go_num, ⟨(BN _).out, (XA _).out⟩, ⟨R, (ON _).out, (by rw [HRN.out, hh.out]; exact OR2.out)⟩⟩
              | true =>
                by_cases hks : os = s
                · subst os
                  have hkb : (s.toList == s.toList) = true := by simp
                  have hh : Hid (RN = RJ ++ [(k, j, ol)]) := by
                    show RN = _
                    rw [HTJ.out]
                    simp [isRd, MOp.key, MOp.kind, MOp.has]
                  clear SK HTJ
                  have SZ1 : (wr.alloc (.cells #[.int .i64 2, .string s, .int .i64 ov, .slice la ol.length lc, .bool true, .bool on] 49)).heap.size = wr.heap.size + 1 := alloc_size _ _
                  have SZ : Hid (((wr.alloc (.cells #[.int .i64 2, .string s, .int .i64 ov, .slice la ol.length lc, .bool true, .bool on] 49)).alloc (.cells #[.int .i64 k, .int .i64 j, .slice la ol.length lc] 87)).heap.size = wr.heap.size + 2) := by show _ = _; rw [alloc_size, SZ1]
                  have B9 : Hid (∀ b, b < wr.heap.size → ((wr.alloc (.cells #[.int .i64 2, .string s, .int .i64 ov, .slice la ol.length lc, .bool true, .bool on] 49)).alloc (.cells #[.int .i64 k, .int .i64 j, .slice la ol.length lc] 87)).heap[b]? = wr.heap[b]?) := fun b hb => by rw [alloc_at, if_neg (by rw [SZ1]; omega), alloc_at, if_neg (by omega)]
                  have OX : Hid (((wr.alloc (.cells #[.int .i64 2, .string s, .int .i64 ov, .slice la ol.length lc, .bool true, .bool on] 49)).alloc (.cells #[.int .i64 k, .int .i64 j, .slice la ol.length lc] 87)).ownsRow w.heap.size 87 3 (.slice ra R.length rc) R.length (rdC R)) := own_same OR1.out (fun g hg => B9.out g (own_block OR1.out hg).2.1)
                  have NEW : Hid (∀ q u, ([.int .i64 (k : Int), .int .i64 (j : Int), .slice la ol.length lc] : List Value)[q]? = some u → ((wr.alloc (.cells #[.int .i64 2, .string s, .int .i64 ov, .slice la ol.length lc, .bool true, .bool on] 49)).alloc (.cells #[.int .i64 k, .int .i64 j, .slice la ol.length lc] 87)).cell? ((⟨wr.heap.size + 1, 0, none⟩ : Addr).add q) = some u) := by
                    have h := World.news_of_block (w := ((wr.alloc (.cells #[.int .i64 2, .string s, .int .i64 ov, .slice la ol.length lc, .bool true, .bool on] 49)).alloc (.cells #[.int .i64 k, .int .i64 j, .slice la ol.length lc] 87))) (B := (wr.alloc (.cells #[.int .i64 2, .string s, .int .i64 ov, .slice la ol.length lc, .bool true, .bool on] 49)).heap.size) (cs := #[.int .i64 k, .int .i64 j, .slice la ol.length lc]) (t := 87) (fr := (0, 0)) (heap_alloc_new (wr.alloc (.cells #[.int .i64 2, .string s, .int .i64 ov, .slice la ol.length lc, .bool true, .bool on] 49)) _)
                    rw [SZ1] at h
                    exact h
                  have ONE : Hid (∀ u ∈ ([.int .i64 (k : Int), .int .i64 (j : Int), .slice la ol.length lc] : List Value), u.oneCell' = true) := by
                    intro u hu
                    simp only [List.mem_cons, List.not_mem_nil, or_false] at hu
                    rcases hu with rfl | rfl | rfl <;> rfl
                  go_wp2_with (at_builtin; refine wpList_append_lies _ rfl _ _ 89 rfl w.heap.size 87 i0 _ 3 40 Try.underlying89 HI0.out HZ0.out HZ1.out HZ2.out rfl (by decide) (.slice ra R.length rc) R.length (rdC R) rfl OX.out ⟨wr.heap.size + 1, 0, none⟩ 1 1 [.int .i64 (k : Int), .int .i64 (j : Int), .slice la ol.length lc] rfl rfl NEW.out ONE.out (by decide) (by unfold maxLen; omega) (by omega) (by rw [SZ.out]; omega) (wr.heap.size + 2) SZ.out ?_; intro g8 cap8 w8 hown8 hgrow8 hat8 hglt8; have O8 := hid hown8; have G8 := hid hgrow8; clear hown8 hgrow8 hat8 hglt8)
                  have same8 : ∀ b, b < wr.heap.size → (Value.slice ra R.length rc).ownBlock ≠ some b → w8.heap[b]? = wr.heap[b]? := fun b hb hn => (G8.out.block b (by rw [SZ.out]; omega) (fun e => hn e.symm)).trans (B9.out b hb)
                  go_roundg (T.length - (j + 1))
                  case measure => omega
                  case rel =>
                    refine ⟨j + 1, by omega, by omega, by go_num, ⟨⟨G8.out.os.trans BJ.out.os, G8.out.tape.trans BJ.out.tape, G8.out.output.trans BJ.out.output, Nat.le_trans (by rw [SZ.out]; omega) G8.out.size, fun b hb => (same8 b (by omega) (fun e => by have := (own_block OR1.out e).1; omega)).trans (BJ.out.block b hb)⟩, ?_⟩, ⟨R ++ [(k, j, la, ol.length, lc)], ?_, ?_⟩⟩
                    · exact (same8 xb hcl XOWN).trans BX.out
                    · rw [List.length_append, rdC_snoc]
                      exact O8.out
                    · rw [HRN.out, hh.out]
                      exact OR2.out.snoc k j la lc ol HIN.out HLW.out
                · have hkb : (os.toList == s.toList) = false := by
                    cases hc : (os.toList == s.toList) with
                    | false => rfl
                    | true => exact absurd (cond_ws ▸ hc) hks
                  have hh := SK (by simp [isRd, MOp.key, hks])
                  clear SK HTJ
                  go_wp2_with fail
                  go_roundg (T.length - (j + 1))
                  case measure => omega
                  case rel => exact ⟨j + 1, by omega, by omega, by go_num, ⟨(BN _).out, (XA _).out⟩, ⟨R, (ON _).out, (by rw [HRN.out, hh.out]; exact OR2.out)⟩⟩
            · have h2b : (ok == (2 : Int)) = false := by simpa using h2
              have hh := SK (by simp [isRd, MOp.kind, h2])
              clear SK HTJ
              go_wp2_with fail
              go_roundg (T.length - (j + 1))
              case measure => omega
              case rel => exact ⟨j + 1, by omega, by omega, by go_num, ⟨(BN _).out, (XA _).out⟩, ⟨R, (ON _).out, (by rw [HRN.out, hh.out]; exact OR2.out)⟩⟩
          · have h1b : (st == (1 : Int)) = false := by simpa using h1
            have hh := SK (by simp [isRd, h1])
            clear SK HTJ
            go_wp2_with fail
            go_roundg (T.length - (j + 1))
            case measure => omega
            case rel => exact ⟨j + 1, by omega, by omega, by go_num, ⟨(BN _).out, (XA _).out⟩, ⟨R, (ON _).out, (by rw [HRN.out, hh.out]; exact OR2.out)⟩⟩
        · have hje : j = T.length := by omega
          have hjli : ¬ (j : Int) < T.length := by omega
          have HN2 : Hid (notes l (k + 1) = notes l k ++ (notesT k T).take j) := by
            show _ = _
            rw [HNT.out, List.take_of_length_le (by rw [notesT_len]; omega)]
          have SE := hid OJ.out
          go_wp2_with fail
          go_roundg (l.length - (k + 1))
          case measure => omega
          case rel => exact ⟨k + 1, by omega, by omega, by go_num, BJ.out, (by rw [HN2.out]; exact SE.out)⟩
    · have hke : k = l.length := by omega
      have hlti : ¬ (k : Int) < l.length := by omega
      subst hke
      obtain ⟨R, hR1, hR2⟩ := OR.out
      have OR1 := hid hR1
      have OR2 := hid hR2
      clear hR1 hR2
      go_wp2_with fail
      go_ret
      exact ⟨_, rfl, R, OR1.out, OR2.out, BR.out⟩
end Go.Proofs.Ytnfbcmnlloipiaa
