/-
  The law InnerAlike.
-/
import Derived.Test.YtadlnkaphkbfdaaIn7
namespace Go.Proofs.Ytadlnkaphkbfdaa
set_option linter.unusedVariables false
set_option linter.unusedSimpArgs false
open Go.RowKit Go.Lib

theorem Try.infoOp : (Try.prog.info? 31).map (fun i => (i.zero, i.size, i.bytes)) = some (some (.agg #[.int .i64 0, .string ByteArray.empty, .int .i64 0, .slice none 0 0, .bool false, .bool false]), 6, 64) := by kernel_rfl
def opC (o : MOp) (lv : Value) : List Value := [.int .i64 o.kind, .string o.key, .int .i64 o.value, lv, .bool o.has, .bool o.nl]
def rowsV (rows : List (MOp × Value)) : List Value := rows.flatMap fun r => opC r.1 r.2
theorem rowsV_snoc (rows : List (MOp × Value)) (o : MOp) (lv : Value) : rowsV (rows ++ [(o, lv)]) = rowsV rows ++ opC o lv := by unfold rowsV; simp
theorem rowsV_at (rows : List (MOp × Value)) (j i : Nat) (hj : j < rows.length) (hi : i < 6) : (rowsV rows)[j * 6 + i]? = (opC (rows.getD j default).1 (rows.getD j default).2)[i]? := by
  induction rows generalizing j with
  | nil => simp at hj
  | cons e l ih =>
    have e0 : rowsV (e :: l) = opC e.1 e.2 ++ rowsV l := by unfold rowsV; simp
    have hl : (opC e.1 e.2).length = 6 := rfl
    rw [e0]
    cases j with
    | zero => rw [List.getElem?_append_left (by rw [hl]; omega)]; simp
    | succ j =>
      rw [List.getElem?_append_right (by rw [hl]; omega), hl, show (j + 1) * 6 + i - 6 = j * 6 + i by omega, ih j (by simpa using hj)]
      simp
/-- A row of operations of one's own, as operations. -/
theorem own_ops {B : Nat} {w : World} {v : Value} {rows : List (MOp × Value)} (h : w.ownsRow B 31 6 v rows.length (rowsV rows)) (hl : ∀ r ∈ rows, IntsIn Any w r.2 r.1.list) (hb : rows.length * 64 ≤ 140737488355328) : OpsIn Any w v (rows.map Prod.fst) := by
  have hlen : (rows.map Prod.fst).length = rows.length := List.length_map _
  rcases h.2 with ⟨hv, hn⟩ | ⟨g, cap, cur, hv, hg, hh, hcap, hm, hsz, ht⟩
  · exact ⟨none, 0, by rw [hv, hlen, hn], ⟨by rw [hlen]; exact hb, by omega⟩, fun h => by omega⟩
  · refine ⟨some ⟨g, 0, none⟩, cap, by rw [hlen]; exact hv, ⟨by rw [hlen]; exact hb, by omega⟩, fun _ => ⟨g, 0, rfl, trivial, fun j hj => ?_⟩⟩
    rw [hlen] at hj
    have e : (rows.map Prod.fst).getD j default = (rows.getD j default).1 := by simp [List.getD, hj]
    have hmem : rows.getD j default ∈ rows := by simp [List.getD, hj]
    rw [e]
    refine ⟨opC (rows.getD j default).1 (rows.getD j default).2, rfl, ⟨_, rfl, hl _ hmem⟩, fun i u hi => ?_⟩
    have hi6 : i < 6 := (List.getElem?_eq_some_iff.1 hi).1
    have := h.cells (g := g) (by rw [hv]; rfl) (j * 6 + i) u (by rw [rowsV_at rows j i hj hi6]; exact hi)
    rw [Addr.add_lit] at this
    rw [Nat.add_assoc]
    exact this
def isR (o : MOp) : Bool := o.kind == 2 || o.kind == 4
theorem key_beq (a b : ByteArray) : (a.toList == b.toList) = decide (a = b) := by
  rw [Lib.toList_data, Lib.toList_data]
  by_cases h : a = b
  · subst h; simp
  · rw [decide_eq_false h]
    simp only [beq_eq_false_iff_ne, ne_eq]
    exact fun c => h (WideShapes.bytes_inj c)
theorem any_step (R : List MOp) (i j : Nat) (x : Int) (hx : x < (i : Int) + 1) : (if x < 0 ∧ ((List.range (j + 1)).any fun j' => dif (R.getD i default) (R.getD j' default)) = true then (i : Int) else x) = if (if x < 0 ∧ ((List.range j).any fun j' => dif (R.getD i default) (R.getD j' default)) = true then (i : Int) else x) < 0 ∧ dif (R.getD i default) (R.getD j default) = true then (i : Int) else (if x < 0 ∧ ((List.range j).any fun j' => dif (R.getD i default) (R.getD j' default)) = true then (i : Int) else x) := by
  rw [List.range_succ, List.any_append]
  generalize (List.range j).any (fun j' => dif (R.getD i default) (R.getD j' default)) = a
  simp only [List.any_cons, List.any_nil, Bool.or_false]
  generalize dif (R.getD i default) (R.getD j default) = d
  cases a <;> cases d <;> by_cases h : x < 0 <;> simp [h] <;> omega
theorem NO1 (R : List MOp) (h : ∀ i, i < R.length → (R.getD i default).kind = 2 ∨ (R.getD i default).kind = 4) (i : Nat) : (R.getD i default).kind ≠ 1 := by
  by_cases hi : i < R.length
  · rcases h i hi with e | e <;> rw [e] <;> decide
  · have e : R.getD i default = default := by simp [List.getD, List.getElem?_eq_none (Nat.le_of_not_lt hi)]
    rw [e]
    decide
theorem filter_R (l : List MOp) (i : Nat) (hi : i < (l.filter isR).length) : ((l.filter isR).getD i default).kind = 2 ∨ ((l.filter isR).getD i default).kind = 4 := by
  have hm : (l.filter isR).getD i default ∈ l.filter isR := by simp [List.getD, hi]
  have h2 := (List.mem_filter.1 hm).2
  unfold isR at h2
  rw [Bool.or_eq_true, beq_iff_eq, beq_iff_eq] at h2
  exact h2

set_option maxHeartbeats 4000000 in
set_option maxRecDepth 100000 in
theorem alike_walk (v : Value) (l : List MOp) (w : World) (h : OpsIn Any w v l) (hk : ∀ o ∈ l, OpKey o) (hl : ∀ o ∈ l, o.list.length * 8 ≤ 140737488355328) :
    Calls Try.prog 4 #[v] w fun e w' => e = .returned (.bool true) ∧ Below w.heap.size w w' := by
  obtain ⟨ao, c, rfl, ⟨hby, hcap⟩, hc⟩ := ops_at h
  obtain ⟨i0, hi, hz0, hz1, hz2⟩ := info_parts Try.infoOp
  have HI := hid hi
  have HZ0 := hid hz0
  have HZ1 := hid hz1
  have HZ2 := hid hz2
  clear hi hz0 hz1 hz2 h
  have HC := hid hc
  have HK := hid hk
  have HLL := hid hl
  have hlen2 : (l.length : Int) ≤ 2199023255552 := by omega
  clear hc hk hl
  go_enter Try.func4, Try.ntmps4
  go_wp2_with fail
  go_loopg [3, 14] l.length (fun g rv i wr => ∃ (k : Nat) (rows : List (MOp × Value)), k ≤ l.length ∧ l.length - k ≤ g ∧ i = .int .i64 k ∧ Aside (Below w.heap.size w wr) ∧ Aside (wr.ownsRow w.heap.size 31 6 rv rows.length (rowsV rows)) ∧ Aside (rows.map Prod.fst = (l.take k).filter isR ∧ (∀ r ∈ rows, IntsIn Any w r.2 r.1.list) ∧ rows.length ≤ k))
  case atStart => exact ⟨0, [], Nat.zero_le _, by omega, rfl, Below.refl _ _, World.ownsRow_nil _ _ _ _, ⟨rfl, fun r hr => by simp at hr, Nat.le_refl _⟩⟩
  case round =>
    obtain ⟨k, rows, hk, hg, rfl, BX, OX, RX⟩ := hrel
    by_cases hkl : k < l.length
    · have hkli : (k : Int) < l.length := by omega
      obtain ⟨bz, oz, lv, rfl, hi, k0, k1, k2, k3, k4, k5⟩ := HC.out k hkl
      have LI := hid hi
      have d0 := (BX.out.cell (p := ⟨bz, oz + k * 6, none⟩) (World.block_lt_of_cell? _ _ k0)).trans k0
      have d1 := (BX.out.cell (p := ⟨bz, oz + k * 6 + 1, none⟩) (World.block_lt_of_cell? _ _ k1)).trans k1
      have d2 := (BX.out.cell (p := ⟨bz, oz + k * 6 + 2, none⟩) (World.block_lt_of_cell? _ _ k2)).trans k2
      have d3 := (BX.out.cell (p := ⟨bz, oz + k * 6 + 3, none⟩) (World.block_lt_of_cell? _ _ k3)).trans k3
      have d4 := (BX.out.cell (p := ⟨bz, oz + k * 6 + 4, none⟩) (World.block_lt_of_cell? _ _ k4)).trans k4
      have d5 := (BX.out.cell (p := ⟨bz, oz + k * 6 + 5, none⟩) (World.block_lt_of_cell? _ _ k5)).trans k5
      clear k0 k1 k2 k3 k4 k5 hi
      have HT : Hid (l.take (k + 1) = l.take k ++ [l.getD k default]) := by
        show l.take (k + 1) = _
        rw [List.take_succ_eq_append_getElem hkl]
        simp [List.getD, hkl]
      obtain ⟨O, hO⟩ : ∃ O, l.getD k default = O := ⟨_, rfl⟩
      rw [hO] at LI d0 d1 d2 d4 d5 HT
      clear hO
      obtain ⟨la, ln, lc, hlv⟩ : ∃ a n c, lv = .slice a n c := by obtain ⟨a, c, h, _⟩ := LI.out; exact ⟨a, _, c, h⟩
      subst hlv
      have hsz := hid BX.out.size
      cases hR : isR O with
      | false =>
        have e2 : (O.kind == 2) = false := by unfold isR at hR; simp at hR; simp [hR]
        have e4 : (O.kind == 4) = false := by unfold isR at hR; simp at hR; simp [hR]
        have RN : Hid (rows.map Prod.fst = (l.take (k + 1)).filter isR) := by
          show rows.map Prod.fst = _
          rw [HT.out, List.filter_append, RX.out.1]
          simp [hR]
        clear hR
        go_wp2_with fail
        go_roundg (l.length - (k + 1))
        · exact ⟨k + 1, rows, by omega, by omega, by go_num, BX.out.trans ((below_box wr _).mono hsz.out), World.ownsRow.alloc OX.out _, ⟨RN.out, RX.out.2.1, by have := RX.out.2.2; omega⟩⟩
        · omega
      | true =>
        have RN : Hid ((rows ++ [(O, Value.slice la ln lc)]).map Prod.fst = (l.take (k + 1)).filter isR) := by
          show (rows ++ [(O, Value.slice la ln lc)]).map Prod.fst = _
          rw [HT.out, List.filter_append, List.map_append, RX.out.1]
          simp [hR]
        by_cases h2 : O.kind = 2
        · have e2 : (O.kind == 2) = true := by simp [h2]
          clear hR h2
          go_wp2_with (at_builtin; refine wpList_append_lies _ rfl _ _ 22 rfl w.heap.size 31 i0 _ 6 64 Try.underlying22 HI.out HZ0.out HZ1.out HZ2.out rfl (by decide) u3 rows.length (rowsV rows) rfl ?hown ⟨wr.heap.size + 1, 0, none⟩ 1 1 (opC O (.slice la ln lc)) rfl rfl ?hnews ?hone (by decide) ?h63 ?hby ?hbase (wr.heap.size + 2) ?hH ?_)
          case hown => exact World.ownsRow.alloc (World.ownsRow.alloc OX.out _) _
          case hnews => exact World.news_of_block (cs := #[.int .i64 O.kind, .string O.key, .int .i64 O.value, .slice la ln lc, .bool O.has, .bool O.nl]) (t := 31) (fr := (0, 0)) (by have h := heap_alloc_new (wr.alloc (.cells #[.int .i64 O.kind, .string O.key, .int .i64 O.value, .slice la ln lc, .bool O.has, .bool O.nl] 31)) (.cells #[.int .i64 O.kind, .string O.key, .int .i64 O.value, .slice la ln lc, .bool O.has, .bool O.nl] 31); rw [alloc_size] at h; exact h)
          case hone => intro u hu; unfold opC at hu; simp at hu; rcases hu with rfl | rfl | rfl | rfl | rfl | rfl <;> rfl
          case h63 => have := RX.out.2.2; unfold maxLen; omega
          case hby => have := RX.out.2.2; omega
          case hbase => have := hsz.out; simp only [alloc_size]; omega
          case hH => simp only [alloc_size]
          intro g cap w4 hown4 hgrow hat hglt
          have B4 : Hid (Below w.heap.size w w4) := BX.out.trans (((two_box wr _ _).mono hsz.out).grown hgrow (by have := hsz.out; simp only [alloc_size]; omega) (fun x hx => (OX.out.lt x hx).1))
          have O4 : Hid (w4.ownsRow w.heap.size 31 6 (.slice (some ⟨g, 0, none⟩) (rows.length + 1) cap) (rows ++ [(O, Value.slice la ln lc)]).length (rowsV (rows ++ [(O, Value.slice la ln lc)]))) := by
            have e1 : (rows ++ [(O, Value.slice la ln lc)]).length = rows.length + 1 := by simp
            show World.ownsRow _ _ _ _ _ _ _
            rw [e1, rowsV_snoc]
            exact hown4
          clear hown4 hgrow hat hglt
          go_wp2_with fail
          go_roundg (l.length - (k + 1))
          · exact ⟨k + 1, rows ++ [(O, Value.slice la ln lc)], by omega, by omega, by go_num, B4.out, O4.out, ⟨RN.out, (fun r hr => by rcases List.mem_append.1 hr with h | h; (· exact RX.out.2.1 r h); (· simp at h; subst h; exact LI.out)), by have := RX.out.2.2; simp; omega⟩⟩
          · omega
        · have e2 : (O.kind == 2) = false := by simp [h2]
          have e4 : (O.kind == 4) = true := by unfold isR at hR; simp [h2] at hR; simp [hR]
          clear hR h2
          go_wp2_with (at_builtin; refine wpList_append_lies _ rfl _ _ 22 rfl w.heap.size 31 i0 _ 6 64 Try.underlying22 HI.out HZ0.out HZ1.out HZ2.out rfl (by decide) u3 rows.length (rowsV rows) rfl ?hown ⟨wr.heap.size + 1, 0, none⟩ 1 1 (opC O (.slice la ln lc)) rfl rfl ?hnews ?hone (by decide) ?h63 ?hby ?hbase (wr.heap.size + 2) ?hH ?_)
          case hown => exact World.ownsRow.alloc (World.ownsRow.alloc OX.out _) _
          case hnews => exact World.news_of_block (cs := #[.int .i64 O.kind, .string O.key, .int .i64 O.value, .slice la ln lc, .bool O.has, .bool O.nl]) (t := 31) (fr := (0, 0)) (by have h := heap_alloc_new (wr.alloc (.cells #[.int .i64 O.kind, .string O.key, .int .i64 O.value, .slice la ln lc, .bool O.has, .bool O.nl] 31)) (.cells #[.int .i64 O.kind, .string O.key, .int .i64 O.value, .slice la ln lc, .bool O.has, .bool O.nl] 31); rw [alloc_size] at h; exact h)
          case hone => intro u hu; unfold opC at hu; simp at hu; rcases hu with rfl | rfl | rfl | rfl | rfl | rfl <;> rfl
          case h63 => have := RX.out.2.2; unfold maxLen; omega
          case hby => have := RX.out.2.2; omega
          case hbase => have := hsz.out; simp only [alloc_size]; omega
          case hH => simp only [alloc_size]
          intro g cap w4 hown4 hgrow hat hglt
          have B4 : Hid (Below w.heap.size w w4) := BX.out.trans (((two_box wr _ _).mono hsz.out).grown hgrow (by have := hsz.out; simp only [alloc_size]; omega) (fun x hx => (OX.out.lt x hx).1))
          have O4 : Hid (w4.ownsRow w.heap.size 31 6 (.slice (some ⟨g, 0, none⟩) (rows.length + 1) cap) (rows ++ [(O, Value.slice la ln lc)]).length (rowsV (rows ++ [(O, Value.slice la ln lc)]))) := by
            have e1 : (rows ++ [(O, Value.slice la ln lc)]).length = rows.length + 1 := by simp
            show World.ownsRow _ _ _ _ _ _ _
            rw [e1, rowsV_snoc]
            exact hown4
          clear hown4 hgrow hat hglt
          go_wp2_with fail
          go_roundg (l.length - (k + 1))
          · exact ⟨k + 1, rows ++ [(O, Value.slice la ln lc)], by omega, by omega, by go_num, B4.out, O4.out, ⟨RN.out, (fun r hr => by rcases List.mem_append.1 hr with h | h; (· exact RX.out.2.1 r h); (· simp at h; subst h; exact LI.out)), by have := RX.out.2.2; simp; omega⟩⟩
          · omega
    · have hkli : ¬ (k : Int) < l.length := by omega
      have ek : k = l.length := by omega
      have ER : Hid (rows.map Prod.fst = l.filter isR) := by
        have h := RX.out.1
        rw [ek, List.take_length] at h
        exact h
      have OPS : Hid (OpsIn Any wr u3 (l.filter isR)) := by
        rw [← ER.out]
        exact own_ops OX.out (fun r hr => (RX.out.2.1 r hr).below (BX.out.mono (Nat.le_refl _))) (by have := RX.out.2.2; omega)
      have KR : Hid (∀ i, i < (l.filter isR).length → ((l.filter isR).getD i default).kind = 2 ∨ ((l.filter isR).getD i default).kind = 4) := filter_R l
      have RL : Hid (∀ i, ((l.filter isR).getD i default).list.length * 8 ≤ 140737488355328) := fun i => by
        by_cases hi : i < (l.filter isR).length
        · have hm : (l.filter isR).getD i default ∈ l.filter isR := by simp [List.getD, hi]
          exact HLL.out _ (List.mem_filter.1 hm).1
        · have e : (l.filter isR).getD i default = default := by simp [List.getD, List.getElem?_eq_none (Nat.le_of_not_lt hi)]
          rw [e]
          exact Nat.zero_le _
      have RK : Hid (∀ i, OpKey ((l.filter isR).getD i default)) := fun i => by
        by_cases hi : i < (l.filter isR).length
        · have hm : (l.filter isR).getD i default ∈ l.filter isR := by simp [List.getD, hi]
          exact HK.out _ (List.mem_filter.1 hm).1
        · have e : (l.filter isR).getD i default = default := by simp [List.getD, List.getElem?_eq_none (Nat.le_of_not_lt hi)]
          rw [e]
          exact opKey default (by decide)
      have hfl : (l.filter isR).length ≤ l.length := List.length_filter_le _ _
      clear ER OX RX HK HLL HC
      generalize l.filter isR = R at *
      obtain ⟨ra, rc, hru, ⟨rby, rcap⟩, rcells⟩ := ops_at OPS.out
      have RC := hid rcells
      subst hru
      clear rcells
      have hrl : (R.length : Int) ≤ 2199023255552 := by omega
      go_wp2_with fail
      generalize wr = w0 at *
      go_loopg [6, 33] R.length (fun g wv iv wr => ∃ (i : Nat) (x : Int), i ≤ R.length ∧ R.length - i ≤ g ∧ iv = .int .i64 i ∧ wv = .int .i64 x ∧ Aside (IsFirst (qb R) i x) ∧ Aside (Below w0.heap.size w0 wr))
      case atStart => exact ⟨0, -1, Nat.zero_le _, by omega, rfl, rfl, .inl ⟨rfl, fun i hi => by omega⟩, Below.refl _ _⟩
      case round =>
        obtain ⟨i, x, hi, hg2, rfl, rfl, FX, BY⟩ := hrel
        have XL := FX.out.low
        by_cases hil : i < R.length
        · have hili : (i : Int) < R.length := by omega
          have hic : (i : Int) ≤ R.length := by omega
          obtain ⟨b1, o1, lv, rfl, hI, k0, k1, k2, k3, k4, k5⟩ := RC.out i hil
          have d0 := (BY.out.cell (p := ⟨b1, o1 + i * 6, none⟩) (World.block_lt_of_cell? _ _ k0)).trans k0
          have d1 := (BY.out.cell (p := ⟨b1, o1 + i * 6 + 1, none⟩) (World.block_lt_of_cell? _ _ k1)).trans k1
          have d2 := (BY.out.cell (p := ⟨b1, o1 + i * 6 + 2, none⟩) (World.block_lt_of_cell? _ _ k2)).trans k2
          have d3 := (BY.out.cell (p := ⟨b1, o1 + i * 6 + 3, none⟩) (World.block_lt_of_cell? _ _ k3)).trans k3
          have d4 := (BY.out.cell (p := ⟨b1, o1 + i * 6 + 4, none⟩) (World.block_lt_of_cell? _ _ k4)).trans k4
          have d5 := (BY.out.cell (p := ⟨b1, o1 + i * 6 + 5, none⟩) (World.block_lt_of_cell? _ _ k5)).trans k5
          clear k0 k1 k2 k3 k4 k5
          obtain ⟨O, hO⟩ : ∃ O, R.getD i default = O := ⟨_, rfl⟩
          have HOe := hid hO
          rw [hO] at hI d0 d1 d2 d4 d5
          clear hO
          obtain ⟨ok, os, ox, ol, oh, on⟩ := O
          simp only [MOp.kind, MOp.key, MOp.value, MOp.list, MOp.has, MOp.nl] at hI d0 d1 d2 d4 d5
          obtain ⟨la, lc, rfl, ⟨lb, lcc⟩, lE⟩ := hI.cells
          have LE := hid lE
          clear hI lE
          obtain ⟨ln, hln⟩ : ∃ ln, ol.length = ln := ⟨_, rfl⟩
          have HLN := hid hln
          rw [hln] at d3 LE lb
          clear hln lcc
          have BW : Hid (Below w0.heap.size w0 (wr.alloc (.cells #[.int .i64 ok, .string os, .int .i64 ox, .slice la ln lc, .bool oh, .bool on] 31))) := BY.out.trans ((below_box wr _).mono BY.out.size)
          have HB : Hid ((wr.alloc (.cells #[.int .i64 ok, .string os, .int .i64 ox, .slice la ln lc, .bool oh, .bool on] 31)).heap[wr.heap.size]? = some (.cells #[.int .i64 ok, .string os, .int .i64 ox, .slice la ln lc, .bool oh, .bool on] 31)) := heap_alloc_new wr _
          go_wp2_with fail
          clear d0 d1 d2 d3 d4 d5 BY
          generalize wr.alloc (.cells #[.int .i64 ok, .string os, .int .i64 ox, .slice la ln lc, .bool oh, .bool on] 31) = w1 at *
          generalize wr.heap.size = ob at *
          generalize wr = wq at *
          go_loopg [6, 42] i (fun g wv jv wr => ∃ j : Nat, j ≤ i ∧ i - j ≤ g ∧ jv = .int .i64 j ∧ wv = .int .i64 (if x < 0 ∧ ((List.range j).any fun j' => dif (R.getD i default) (R.getD j' default)) = true then (i : Int) else x) ∧ Aside (Below w1.heap.size w1 wr))
          case atStart => exact ⟨0, Nat.zero_le _, by omega, rfl, by simp, Below.refl _ _⟩
          case round =>
            obtain ⟨j, hj, hg3, rfl, rfl, BZ⟩ := hrel
            have AS := hid (any_step R i j x XL.2)
            have YB : Hid (j = i → IsFirst (qb R) (i + 1) (if x < 0 ∧ ((List.range j).any fun j' => dif (R.getD i default) (R.getD j' default)) = true then (i : Int) else x)) := fun e => by
              subst e
              exact FX.out.next
            have YL : -1 ≤ (if x < 0 ∧ ((List.range j).any fun j' => dif (R.getD i default) (R.getD j' default)) = true then (i : Int) else x) ∧ (if x < 0 ∧ ((List.range j).any fun j' => dif (R.getD i default) (R.getD j' default)) = true then (i : Int) else x) ≤ i := by split <;> omega
            generalize (if x < 0 ∧ ((List.range j).any fun j' => dif (R.getD i default) (R.getD j' default)) = true then (i : Int) else x) = y at *
            by_cases hjl : j < i
            · have hjli : (j : Int) < i := by omega
              have BB : Hid (Below w0.heap.size w0 wr) := BW.out.trans (BZ.out.mono BW.out.size)
              obtain ⟨b2, o2, lw, hr2, hJ, m0, m1, m2, m3, m4, m5⟩ := RC.out j (by omega)
              cases hr2
              have d0 := (BB.out.cell (p := ⟨b1, o1 + j * 6, none⟩) (World.block_lt_of_cell? _ _ m0)).trans m0
              have d1 := (BB.out.cell (p := ⟨b1, o1 + j * 6 + 1, none⟩) (World.block_lt_of_cell? _ _ m1)).trans m1
              have d2 := (BB.out.cell (p := ⟨b1, o1 + j * 6 + 2, none⟩) (World.block_lt_of_cell? _ _ m2)).trans m2
              have d3 := (BB.out.cell (p := ⟨b1, o1 + j * 6 + 3, none⟩) (World.block_lt_of_cell? _ _ m3)).trans m3
              have d4 := (BB.out.cell (p := ⟨b1, o1 + j * 6 + 4, none⟩) (World.block_lt_of_cell? _ _ m4)).trans m4
              have d5 := (BB.out.cell (p := ⟨b1, o1 + j * 6 + 5, none⟩) (World.block_lt_of_cell? _ _ m5)).trans m5
              clear m0 m1 m2 m3 m4 m5
              obtain ⟨P, hP⟩ : ∃ P, R.getD j default = P := ⟨_, rfl⟩
              obtain ⟨DD, hDD⟩ : ∃ DD, dif (R.getD i default) (R.getD j default) = DD := ⟨_, rfl⟩
              rw [hDD] at AS
              have DV : Hid (DD = dif (ok, os, ox, ol, oh, on) P) := by show DD = _; rw [← hDD, HOe.out, hP]
              rw [hP] at hJ d0 d1 d2 d4 d5
              clear hP hDD
              obtain ⟨pk, ps, px, pl, ph, pn⟩ := P
              simp only [MOp.kind, MOp.key, MOp.value, MOp.list, MOp.has, MOp.nl] at hJ d0 d1 d2 d4 d5
              obtain ⟨pa, pc, rfl, ⟨pb, pcc⟩, pE⟩ := hJ.cells
              have PE := hid pE
              clear hJ pE
              obtain ⟨pm, hpm⟩ : ∃ pm, pl.length = pm := ⟨_, rfl⟩
              have HPM := hid hpm
              rw [hpm] at d3 PE pb
              clear hpm pcc
              have hb := (BZ.out.block _ (blt HB.out)).trans HB.out
              have q0 : wr.cell? ⟨ob, 0, none⟩ = some (.int .i64 ok) := Lib.cell_of_heap hb 0
              have q1 : wr.cell? ⟨ob, 1, none⟩ = some (.string os) := Lib.cell_of_heap hb 1
              have q2 : wr.cell? ⟨ob, 2, none⟩ = some (.int .i64 ox) := Lib.cell_of_heap hb 2
              have q3 : wr.cell? ⟨ob, 3, none⟩ = some (.slice la ln lc) := Lib.cell_of_heap hb 3
              have q4 : wr.cell? ⟨ob, 4, none⟩ = some (.bool oh) := Lib.cell_of_heap hb 4
              have q5 : wr.cell? ⟨ob, 5, none⟩ = some (.bool on) := Lib.cell_of_heap hb 5
              have a0 := Lib.cell?_alloc_some (.cells #[.int .i64 pk, .string ps, .int .i64 px, .slice pa pm pc, .bool ph, .bool pn] 31) q0
              have a1 := Lib.cell?_alloc_some (.cells #[.int .i64 pk, .string ps, .int .i64 px, .slice pa pm pc, .bool ph, .bool pn] 31) q1
              have a2 := Lib.cell?_alloc_some (.cells #[.int .i64 pk, .string ps, .int .i64 px, .slice pa pm pc, .bool ph, .bool pn] 31) q2
              have a3 := Lib.cell?_alloc_some (.cells #[.int .i64 pk, .string ps, .int .i64 px, .slice pa pm pc, .bool ph, .bool pn] 31) q3
              have a4 := Lib.cell?_alloc_some (.cells #[.int .i64 pk, .string ps, .int .i64 px, .slice pa pm pc, .bool ph, .bool pn] 31) q4
              have a5 := Lib.cell?_alloc_some (.cells #[.int .i64 pk, .string ps, .int .i64 px, .slice pa pm pc, .bool ph, .bool pn] 31) q5
              clear hb q0 q1 q2 q3 q4 q5
              have EL : Hid (IntCells (wr.alloc (.cells #[.int .i64 pk, .string ps, .int .i64 px, .slice pa pm pc, .bool ph, .bool pn] 31)) la ol ln) := (LE.out.later (BB.out.mono (Nat.le_refl _))).later (below_box wr _)
              have EP : Hid (IntCells (wr.alloc (.cells #[.int .i64 pk, .string ps, .int .i64 px, .slice pa pm pc, .bool ph, .bool pn] 31)) pa pl pm) := (PE.out.later (BB.out.mono (Nat.le_refl _))).later (below_box wr _)
              go_wp2_with fail
              go_at_call 12
              refine (slicesEqual_cells la pa lc pc ln pm ol pl _ HLN.out HPM.out (by omega) EL.out EP.out).mono ?_
              rintro e w' ⟨rfl, q, rfl⟩
              clear d0 d1 d2 d3 d4 d5 EL EP
              by_cases h4 : ok = 4
              · subst h4
                by_cases hy : y < 0
                · have hyd : decide (y < 0) = true := decide_eq_true hy
                  cases oh with
                  | false =>
                    rcases Bool.eq_false_or_eq_true on with hon | hon
                    · subst hon
                      rcases Bool.eq_false_or_eq_true pn with hpn | hpn
                      · subst hpn
                        go_wp2_with fail
                        go_roundg (i - (j + 1))
                        · exact ⟨j + 1, by omega, by omega, by go_num, (by rw [AS.out, if_neg (fun c => by have h := c.2; rw [DV.out, show dif _ _ = false from (by simp [dif, sam, if_true])] at h; cases h)]), below_drewN ((BZ.out.trans ((below_box wr _).mono BZ.out.size))) _⟩
                        · omega
                      · subst hpn
                        go_wp2_with fail
                        go_roundg (i - (j + 1))
                        · exact ⟨j + 1, by omega, by omega, by go_num, (by rw [AS.out, if_neg (fun c => by have h := c.2; rw [DV.out, show dif _ _ = false from (by simp [dif, sam, if_true])] at h; cases h)]), below_drewN ((BZ.out.trans ((below_box wr _).mono BZ.out.size))) _⟩
                        · omega
                    · subst hon
                      rcases Bool.eq_false_or_eq_true pn with hpn | hpn
                      · subst hpn
                        go_wp2_with fail
                        go_roundg (i - (j + 1))
                        · exact ⟨j + 1, by omega, by omega, by go_num, (by rw [AS.out, if_neg (fun c => by have h := c.2; rw [DV.out, show dif _ _ = false from (by simp [dif, sam, if_true])] at h; cases h)]), below_drewN ((BZ.out.trans ((below_box wr _).mono BZ.out.size))) _⟩
                        · omega
                      · subst hpn
                        cases hvv : (ox == px) with
                        | true =>
                          go_wp2_with fail
                          go_roundg (i - (j + 1))
                          · exact ⟨j + 1, by omega, by omega, by go_num, (by rw [AS.out, if_neg (fun c => by have h := c.2; rw [DV.out, show dif _ _ = false from (by simp [dif, sam, if_true])] at h; cases h)]), below_drewN ((BZ.out.trans ((below_box wr _).mono BZ.out.size))) _⟩
                          · omega
                        | false =>
                          go_wp2_with fail
                          go_roundg (i - (j + 1))
                          · exact ⟨j + 1, by omega, by omega, by go_num, (by rw [AS.out, if_neg (fun c => by have h := c.2; rw [DV.out, show dif _ _ = false from (by simp [dif, sam, if_true])] at h; cases h)]), below_drewN ((BZ.out.trans ((below_box wr _).mono BZ.out.size))) _⟩
                          · omega
                  | true =>
                    cases ph with
                    | false =>
                      rcases Bool.eq_false_or_eq_true on with hon | hon
                      · subst hon
                        rcases Bool.eq_false_or_eq_true pn with hpn | hpn
                        · subst hpn
                          go_wp2_with fail
                          go_roundg (i - (j + 1))
                          · exact ⟨j + 1, by omega, by omega, by go_num, (by rw [AS.out, if_neg (fun c => by have h := c.2; rw [DV.out, show dif _ _ = false from (by simp [dif, sam, if_true])] at h; cases h)]), below_drewN ((BZ.out.trans ((below_box wr _).mono BZ.out.size))) _⟩
                          · omega
                        · subst hpn
                          go_wp2_with fail
                          go_roundg (i - (j + 1))
                          · exact ⟨j + 1, by omega, by omega, by go_num, (by rw [AS.out, if_neg (fun c => by have h := c.2; rw [DV.out, show dif _ _ = false from (by simp [dif, sam, if_true])] at h; cases h)]), below_drewN ((BZ.out.trans ((below_box wr _).mono BZ.out.size))) _⟩
                          · omega
                      · subst hon
                        rcases Bool.eq_false_or_eq_true pn with hpn | hpn
                        · subst hpn
                          go_wp2_with fail
                          go_roundg (i - (j + 1))
                          · exact ⟨j + 1, by omega, by omega, by go_num, (by rw [AS.out, if_neg (fun c => by have h := c.2; rw [DV.out, show dif _ _ = false from (by simp [dif, sam, if_true])] at h; cases h)]), below_drewN ((BZ.out.trans ((below_box wr _).mono BZ.out.size))) _⟩
                          · omega
                        · subst hpn
                          cases hvv : (ox == px) with
                          | true =>
                            go_wp2_with fail
                            go_roundg (i - (j + 1))
                            · exact ⟨j + 1, by omega, by omega, by go_num, (by rw [AS.out, if_neg (fun c => by have h := c.2; rw [DV.out, show dif _ _ = false from (by simp [dif, sam, if_true])] at h; cases h)]), below_drewN ((BZ.out.trans ((below_box wr _).mono BZ.out.size))) _⟩
                            · omega
                          | false =>
                            go_wp2_with fail
                            go_roundg (i - (j + 1))
                            · exact ⟨j + 1, by omega, by omega, by go_num, (by rw [AS.out, if_neg (fun c => by have h := c.2; rw [DV.out, show dif _ _ = false from (by simp [dif, sam, if_true])] at h; cases h)]), below_drewN ((BZ.out.trans ((below_box wr _).mono BZ.out.size))) _⟩
                            · omega
                    | true =>
                      cases hkk : ((4 : Int) == pk) with
                      | false =>
                        rcases Bool.eq_false_or_eq_true on with hon | hon
                        · subst hon
                          rcases Bool.eq_false_or_eq_true pn with hpn | hpn
                          · subst hpn
                            go_wp2_with fail
                            go_roundg (i - (j + 1))
                            · exact ⟨j + 1, by omega, by omega, by go_num, (by rw [AS.out, if_neg (fun c => by have h := c.2; rw [DV.out, show dif _ _ = false from (by simp [dif, sam, if_true, beq_eq_false_iff_ne.1 hkk])] at h; cases h)]), below_drewN ((BZ.out.trans ((below_box wr _).mono BZ.out.size))) _⟩
                            · omega
                          · subst hpn
                            go_wp2_with fail
                            go_roundg (i - (j + 1))
                            · exact ⟨j + 1, by omega, by omega, by go_num, (by rw [AS.out, if_neg (fun c => by have h := c.2; rw [DV.out, show dif _ _ = false from (by simp [dif, sam, if_true, beq_eq_false_iff_ne.1 hkk])] at h; cases h)]), below_drewN ((BZ.out.trans ((below_box wr _).mono BZ.out.size))) _⟩
                            · omega
                        · subst hon
                          rcases Bool.eq_false_or_eq_true pn with hpn | hpn
                          · subst hpn
                            go_wp2_with fail
                            go_roundg (i - (j + 1))
                            · exact ⟨j + 1, by omega, by omega, by go_num, (by rw [AS.out, if_neg (fun c => by have h := c.2; rw [DV.out, show dif _ _ = false from (by simp [dif, sam, if_true, beq_eq_false_iff_ne.1 hkk])] at h; cases h)]), below_drewN ((BZ.out.trans ((below_box wr _).mono BZ.out.size))) _⟩
                            · omega
                          · subst hpn
                            cases hvv : (ox == px) with
                            | true =>
                              go_wp2_with fail
                              go_roundg (i - (j + 1))
                              · exact ⟨j + 1, by omega, by omega, by go_num, (by rw [AS.out, if_neg (fun c => by have h := c.2; rw [DV.out, show dif _ _ = false from (by simp [dif, sam, if_true, beq_eq_false_iff_ne.1 hkk])] at h; cases h)]), below_drewN ((BZ.out.trans ((below_box wr _).mono BZ.out.size))) _⟩
                              · omega
                            | false =>
                              go_wp2_with fail
                              go_roundg (i - (j + 1))
                              · exact ⟨j + 1, by omega, by omega, by go_num, (by rw [AS.out, if_neg (fun c => by have h := c.2; rw [DV.out, show dif _ _ = false from (by simp [dif, sam, if_true, beq_eq_false_iff_ne.1 hkk])] at h; cases h)]), below_drewN ((BZ.out.trans ((below_box wr _).mono BZ.out.size))) _⟩
                              · omega
                      | true =>
                        cases hke : decide (os = ps) with
                        | false =>
                          have hks : (os.toList == ps.toList) = false := by rw [key_beq]; exact hke
                          rcases Bool.eq_false_or_eq_true on with hon | hon
                          · subst hon
                            rcases Bool.eq_false_or_eq_true pn with hpn | hpn
                            · subst hpn
                              go_wp2_with fail
                              go_roundg (i - (j + 1))
                              · exact ⟨j + 1, by omega, by omega, by go_num, (by rw [AS.out, if_neg (fun c => by have h := c.2; rw [DV.out, show dif _ _ = false from (by simp [dif, sam, if_true, of_decide_eq_false hke])] at h; cases h)]), below_drewN ((BZ.out.trans ((below_box wr _).mono BZ.out.size))) _⟩
                              · omega
                            · subst hpn
                              go_wp2_with fail
                              go_roundg (i - (j + 1))
                              · exact ⟨j + 1, by omega, by omega, by go_num, (by rw [AS.out, if_neg (fun c => by have h := c.2; rw [DV.out, show dif _ _ = false from (by simp [dif, sam, if_true, of_decide_eq_false hke])] at h; cases h)]), below_drewN ((BZ.out.trans ((below_box wr _).mono BZ.out.size))) _⟩
                              · omega
                          · subst hon
                            rcases Bool.eq_false_or_eq_true pn with hpn | hpn
                            · subst hpn
                              go_wp2_with fail
                              go_roundg (i - (j + 1))
                              · exact ⟨j + 1, by omega, by omega, by go_num, (by rw [AS.out, if_neg (fun c => by have h := c.2; rw [DV.out, show dif _ _ = false from (by simp [dif, sam, if_true, of_decide_eq_false hke])] at h; cases h)]), below_drewN ((BZ.out.trans ((below_box wr _).mono BZ.out.size))) _⟩
                              · omega
                            · subst hpn
                              cases hvv : (ox == px) with
                              | true =>
                                go_wp2_with fail
                                go_roundg (i - (j + 1))
                                · exact ⟨j + 1, by omega, by omega, by go_num, (by rw [AS.out, if_neg (fun c => by have h := c.2; rw [DV.out, show dif _ _ = false from (by simp [dif, sam, if_true, of_decide_eq_false hke])] at h; cases h)]), below_drewN ((BZ.out.trans ((below_box wr _).mono BZ.out.size))) _⟩
                                · omega
                              | false =>
                                go_wp2_with fail
                                go_roundg (i - (j + 1))
                                · exact ⟨j + 1, by omega, by omega, by go_num, (by rw [AS.out, if_neg (fun c => by have h := c.2; rw [DV.out, show dif _ _ = false from (by simp [dif, sam, if_true, of_decide_eq_false hke])] at h; cases h)]), below_drewN ((BZ.out.trans ((below_box wr _).mono BZ.out.size))) _⟩
                                · omega
                        | true =>
                          have hks : (os.toList == ps.toList) = true := by rw [key_beq]; exact hke
                          rcases Bool.eq_false_or_eq_true on with hon | hon
                          · subst hon
                            rcases Bool.eq_false_or_eq_true pn with hpn | hpn
                            · subst hpn
                              go_wp2_with fail
                              go_roundg (i - (j + 1))
                              · exact ⟨j + 1, by omega, by omega, by go_num, (by rw [AS.out, if_neg (fun c => by have h := c.2; rw [DV.out, show dif _ _ = false from (by simp [dif, sam, if_true, if_true])] at h; cases h)]), below_drewN ((BZ.out.trans ((below_box wr _).mono BZ.out.size))) _⟩
                              · omega
                            · subst hpn
                              go_wp2_with fail
                              go_roundg (i - (j + 1))
                              · exact ⟨j + 1, by omega, by omega, by go_num, (by rw [AS.out, if_pos ⟨hy, (by rw [DV.out]; simp [dif, sam, if_true, if_true, beq_iff_eq.1 hkk, of_decide_eq_true hke])⟩]), below_drewN ((BZ.out.trans ((below_box wr _).mono BZ.out.size))) _⟩
                              · omega
                          · subst hon
                            rcases Bool.eq_false_or_eq_true pn with hpn | hpn
                            · subst hpn
                              go_wp2_with fail
                              go_roundg (i - (j + 1))
                              · exact ⟨j + 1, by omega, by omega, by go_num, (by rw [AS.out, if_pos ⟨hy, (by rw [DV.out]; simp [dif, sam, if_true, if_true, beq_iff_eq.1 hkk, of_decide_eq_true hke])⟩]), below_drewN ((BZ.out.trans ((below_box wr _).mono BZ.out.size))) _⟩
                              · omega
                            · subst hpn
                              cases hvv : (ox == px) with
                              | true =>
                                go_wp2_with fail
                                go_roundg (i - (j + 1))
                                · exact ⟨j + 1, by omega, by omega, by go_num, (by rw [AS.out, if_neg (fun c => by have h := c.2; rw [DV.out, show dif _ _ = false from (by simp [dif, sam, if_true, beq_iff_eq.1 hvv])] at h; cases h)]), below_drewN ((BZ.out.trans ((below_box wr _).mono BZ.out.size))) _⟩
                                · omega
                              | false =>
                                go_wp2_with fail
                                go_roundg (i - (j + 1))
                                · exact ⟨j + 1, by omega, by omega, by go_num, (by rw [AS.out, if_pos ⟨hy, (by rw [DV.out]; simp [dif, sam, if_true, beq_eq_false_iff_ne.1 hvv, beq_iff_eq.1 hkk, of_decide_eq_true hke])⟩]), below_drewN ((BZ.out.trans ((below_box wr _).mono BZ.out.size))) _⟩
                                · omega
                · have hyd : decide (y < 0) = false := decide_eq_false hy
                  rcases Bool.eq_false_or_eq_true on with hon | hon
                  · subst hon
                    rcases Bool.eq_false_or_eq_true pn with hpn | hpn
                    · subst hpn
                      go_wp2_with fail
                      go_roundg (i - (j + 1))
                      · exact ⟨j + 1, by omega, by omega, by go_num, (by rw [AS.out, if_neg (fun c => by have := c.1; omega)]), below_drewN ((BZ.out.trans ((below_box wr _).mono BZ.out.size))) _⟩
                      · omega
                    · subst hpn
                      go_wp2_with fail
                      go_roundg (i - (j + 1))
                      · exact ⟨j + 1, by omega, by omega, by go_num, (by rw [AS.out, if_neg (fun c => by have := c.1; omega)]), below_drewN ((BZ.out.trans ((below_box wr _).mono BZ.out.size))) _⟩
                      · omega
                  · subst hon
                    rcases Bool.eq_false_or_eq_true pn with hpn | hpn
                    · subst hpn
                      go_wp2_with fail
                      go_roundg (i - (j + 1))
                      · exact ⟨j + 1, by omega, by omega, by go_num, (by rw [AS.out, if_neg (fun c => by have := c.1; omega)]), below_drewN ((BZ.out.trans ((below_box wr _).mono BZ.out.size))) _⟩
                      · omega
                    · subst hpn
                      cases hvv : (ox == px) with
                      | true =>
                        go_wp2_with fail
                        go_roundg (i - (j + 1))
                        · exact ⟨j + 1, by omega, by omega, by go_num, (by rw [AS.out, if_neg (fun c => by have := c.1; omega)]), below_drewN ((BZ.out.trans ((below_box wr _).mono BZ.out.size))) _⟩
                        · omega
                      | false =>
                        go_wp2_with fail
                        go_roundg (i - (j + 1))
                        · exact ⟨j + 1, by omega, by omega, by go_num, (by rw [AS.out, if_neg (fun c => by have := c.1; omega)]), below_drewN ((BZ.out.trans ((below_box wr _).mono BZ.out.size))) _⟩
                        · omega
              · have e4 : (ok == 4) = false := by simp [h4]
                by_cases hy : y < 0
                · have hyd : decide (y < 0) = true := decide_eq_true hy
                  cases oh with
                  | false =>
                    by_cases hsl : ol = pl
                    · have hsd : decide (ol = pl) = true := decide_eq_true hsl
                      go_wp2_with fail
                      go_roundg (i - (j + 1))
                      · exact ⟨j + 1, by omega, by omega, by go_num, (by rw [AS.out, if_neg (fun c => by have h := c.2; rw [DV.out, show dif _ _ = false from (by simp [dif, sam, h4])] at h; cases h)]), below_drewN ((BZ.out.trans ((below_box wr _).mono BZ.out.size))) _⟩
                      · omega
                    · have hsd : decide (ol = pl) = false := decide_eq_false hsl
                      go_wp2_with fail
                      go_roundg (i - (j + 1))
                      · exact ⟨j + 1, by omega, by omega, by go_num, (by rw [AS.out, if_neg (fun c => by have h := c.2; rw [DV.out, show dif _ _ = false from (by simp [dif, sam, h4])] at h; cases h)]), below_drewN ((BZ.out.trans ((below_box wr _).mono BZ.out.size))) _⟩
                      · omega
                  | true =>
                    cases ph with
                    | false =>
                      by_cases hsl : ol = pl
                      · have hsd : decide (ol = pl) = true := decide_eq_true hsl
                        go_wp2_with fail
                        go_roundg (i - (j + 1))
                        · exact ⟨j + 1, by omega, by omega, by go_num, (by rw [AS.out, if_neg (fun c => by have h := c.2; rw [DV.out, show dif _ _ = false from (by simp [dif, sam, h4])] at h; cases h)]), below_drewN ((BZ.out.trans ((below_box wr _).mono BZ.out.size))) _⟩
                        · omega
                      · have hsd : decide (ol = pl) = false := decide_eq_false hsl
                        go_wp2_with fail
                        go_roundg (i - (j + 1))
                        · exact ⟨j + 1, by omega, by omega, by go_num, (by rw [AS.out, if_neg (fun c => by have h := c.2; rw [DV.out, show dif _ _ = false from (by simp [dif, sam, h4])] at h; cases h)]), below_drewN ((BZ.out.trans ((below_box wr _).mono BZ.out.size))) _⟩
                        · omega
                    | true =>
                      cases hkk : (ok == pk) with
                      | false =>
                        by_cases hsl : ol = pl
                        · have hsd : decide (ol = pl) = true := decide_eq_true hsl
                          go_wp2_with fail
                          go_roundg (i - (j + 1))
                          · exact ⟨j + 1, by omega, by omega, by go_num, (by rw [AS.out, if_neg (fun c => by have h := c.2; rw [DV.out, show dif _ _ = false from (by simp [dif, sam, h4, beq_eq_false_iff_ne.1 hkk])] at h; cases h)]), below_drewN ((BZ.out.trans ((below_box wr _).mono BZ.out.size))) _⟩
                          · omega
                        · have hsd : decide (ol = pl) = false := decide_eq_false hsl
                          go_wp2_with fail
                          go_roundg (i - (j + 1))
                          · exact ⟨j + 1, by omega, by omega, by go_num, (by rw [AS.out, if_neg (fun c => by have h := c.2; rw [DV.out, show dif _ _ = false from (by simp [dif, sam, h4, beq_eq_false_iff_ne.1 hkk])] at h; cases h)]), below_drewN ((BZ.out.trans ((below_box wr _).mono BZ.out.size))) _⟩
                          · omega
                      | true =>
                        cases hke : decide (os = ps) with
                        | false =>
                          have hks : (os.toList == ps.toList) = false := by rw [key_beq]; exact hke
                          by_cases hsl : ol = pl
                          · have hsd : decide (ol = pl) = true := decide_eq_true hsl
                            go_wp2_with fail
                            go_roundg (i - (j + 1))
                            · exact ⟨j + 1, by omega, by omega, by go_num, (by rw [AS.out, if_neg (fun c => by have h := c.2; rw [DV.out, show dif _ _ = false from (by simp [dif, sam, h4, of_decide_eq_false hke])] at h; cases h)]), below_drewN ((BZ.out.trans ((below_box wr _).mono BZ.out.size))) _⟩
                            · omega
                          · have hsd : decide (ol = pl) = false := decide_eq_false hsl
                            go_wp2_with fail
                            go_roundg (i - (j + 1))
                            · exact ⟨j + 1, by omega, by omega, by go_num, (by rw [AS.out, if_neg (fun c => by have h := c.2; rw [DV.out, show dif _ _ = false from (by simp [dif, sam, h4, of_decide_eq_false hke])] at h; cases h)]), below_drewN ((BZ.out.trans ((below_box wr _).mono BZ.out.size))) _⟩
                            · omega
                        | true =>
                          have hks : (os.toList == ps.toList) = true := by rw [key_beq]; exact hke
                          by_cases hsl : ol = pl
                          · have hsd : decide (ol = pl) = true := decide_eq_true hsl
                            go_wp2_with fail
                            go_roundg (i - (j + 1))
                            · exact ⟨j + 1, by omega, by omega, by go_num, (by rw [AS.out, if_neg (fun c => by have h := c.2; rw [DV.out, show dif _ _ = false from (by simp [dif, sam, h4, hsl])] at h; cases h)]), below_drewN ((BZ.out.trans ((below_box wr _).mono BZ.out.size))) _⟩
                            · omega
                          · have hsd : decide (ol = pl) = false := decide_eq_false hsl
                            go_wp2_with fail
                            go_roundg (i - (j + 1))
                            · exact ⟨j + 1, by omega, by omega, by go_num, (by rw [AS.out, if_pos ⟨hy, (by rw [DV.out]; simp [dif, sam, h4, hsl, (show ¬ pk = 4 from fun c => h4 ((beq_iff_eq.1 hkk).trans c)), beq_iff_eq.1 hkk, of_decide_eq_true hke])⟩]), below_drewN ((BZ.out.trans ((below_box wr _).mono BZ.out.size))) _⟩
                            · omega
                · have hyd : decide (y < 0) = false := decide_eq_false hy
                  by_cases hsl : ol = pl
                  · have hsd : decide (ol = pl) = true := decide_eq_true hsl
                    go_wp2_with fail
                    go_roundg (i - (j + 1))
                    · exact ⟨j + 1, by omega, by omega, by go_num, (by rw [AS.out, if_neg (fun c => by have := c.1; omega)]), below_drewN ((BZ.out.trans ((below_box wr _).mono BZ.out.size))) _⟩
                    · omega
                  · have hsd : decide (ol = pl) = false := decide_eq_false hsl
                    go_wp2_with fail
                    go_roundg (i - (j + 1))
                    · exact ⟨j + 1, by omega, by omega, by go_num, (by rw [AS.out, if_neg (fun c => by have := c.1; omega)]), below_drewN ((BZ.out.trans ((below_box wr _).mono BZ.out.size))) _⟩
                    · omega
            · have hjli : ¬ (j : Int) < i := by omega
              have ej : j = i := by omega
              have FN := hid (YB.out ej)
              clear ej YB AS
              go_wp2_with fail
              go_roundg (R.length - (i + 1))
              · exact ⟨i + 1, y, by omega, by omega, by go_num, rfl, FN.out, BW.out.trans (BZ.out.mono BW.out.size)⟩
              · omega
        · have hili : ¬ (i : Int) < R.length := by omega
          have ei : i = R.length := by omega
          have FE : Hid (IsFirst (qb R) R.length x) := by rw [← ei]; exact FX.out
          have OPW : Hid (OpsIn Any wr (.slice ra R.length rc) R) := OPS.out.below BY.out
          clear ei
          go_wp2_with fail
          go_at_call 10
          refine (check_is (.slice ra R.length rc) R wr OPW.out RK.out (st_bound R _ RL.out (NO1 R KR.out)) (fun i t s h => (NO1 R KR.out i h).elim) (by omega)).mono ?_
          rintro e w5 ⟨r, rfl, hr, b5⟩
          have er : r = x := alike_eq R R.length KR.out r x hr FE.out
          subst er
          have hrr : (r == r) = true := by simp
          have B5 : Hid (Below w.heap.size w w5) := BX.out.trans ((BY.out.mono BX.out.size).trans (b5.mono (Nat.le_trans BX.out.size BY.out.size)))
          clear hr b5
          go_wp2_with fail
          go_ret
          exact ⟨rfl, B5.out⟩
end Go.Proofs.Ytadlnkaphkbfdaa
