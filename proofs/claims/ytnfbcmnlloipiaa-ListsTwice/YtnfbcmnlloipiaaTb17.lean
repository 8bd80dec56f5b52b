/-
  A table's kinds and transactions, one by one.
-/
import Derived.Test.YtnfbcmnlloipiaaTb14
namespace Go.Proofs.Ytnfbcmnlloipiaa
set_option linter.unusedVariables false
set_option linter.unusedSimpArgs false
open Go.RowKit Go.Lib Go.Maps
open Tx (MTxn info_parts flatten_len flatten_get RowsIn.cells RowCells TxnRow TxnsIn TxnsOwn setCell_self cloneInts_any OpsOwn smallL cutTxn cutOp)

theorem tkind_is (B : Nat) (w : World) (tb : Nat) (l : List MTxn) (h : Made B w tb l) (s : ByteArray) (hs : s.size ≤ maxLen) :
    Calls Try.prog 65 #[.pointer (some ⟨tb, 0, none⟩), .string s] w fun e w' => e = .returned (.int .i64 (kindN (notes l l.length) s)) ∧ w = w' := by
  obtain ⟨kb, wb, lb, tv, kv, F, D, m, u, h1, _⟩ := h
  obtain ⟨_, _, c2, _, _, _⟩ := h1.c
  have LK := h1.ks.look s hs
  clear h1
  go_enter Try.func65, Try.ntmps65
  go_wp2
  go_ret
  exact ⟨rfl, rfl⟩
/-- What Txn answers: a transaction with operations in new memory. -/
def TxPost (t : MTxn) (w : World) (e : Ending) (w' : World) : Prop := ∃ a n c, e = .returned (.agg #[.int .i64 t.proc, .int .i64 t.state, .int .i64 t.since, .int .i64 t.till, .slice a n c]) ∧ OpsOwn (fun b => w.heap.size ≤ b) w' (.slice a n c) t.ops ∧ Below w.heap.size w w'
set_option maxHeartbeats 4000000 in
set_option maxRecDepth 100000 in
theorem ttx_in (B : Nat) (w : World) (tb : Nat) (l : List MTxn) (h : Made B w tb l) (n : Nat) (hn : n < l.length) (hl : l.length ≤ 1000) (hok : ∀ t ∈ l, ∀ o ∈ t.ops, OpOk o) :
    Calls Try.prog 67 #[.pointer (some ⟨tb, 0, none⟩), .int .i64 (n : Int)] w fun e w' => TxPost (l.getD n default) w e w' := by
  have M := hid h
  have CO : Hid (∀ W, Below w.heap.size w W → Calls Try.prog 21 #[.pointer (some ⟨tb, 0, none⟩)] W fun e w' => e = .returned (.int .i64 (l.length : Int)) ∧ W = w') := fun W hb => count_is B W tb l (M.out.later hb)
  obtain ⟨kb, wb, lb, tv, kv, F, D, m, u, h1, _, _, _, _, h6, _⟩ := h
  obtain ⟨c0, _⟩ := h1.c
  have htl := (h1.flt tb h1.ft).2
  obtain ⟨ao, cc, rfl, hbytes, hrow⟩ := RowsIn.cells h6 (by omega)
  obtain ⟨b, o, cs, rfl, hbl, _, ⟨ov, hcs, hops⟩, hcell⟩ := hrow n hn
  subst hcs
  obtain ⟨oa, oc, hov, _⟩ := id hops
  subst hov
  have d0 := hcell 0 _ rfl
  have d1 := hcell 1 _ rfl
  have d2 := hcell 2 _ rfl
  have d3 := hcell 3 _ rfl
  have d4 := hcell 4 _ rfl
  rw [Nat.add_zero] at d0
  have HOP := hid hops
  have HKS : Hid (∀ o ∈ (l.getD n default).ops, o.key.size ≤ 281474976710656) := fun o ho => (hok _ (getD_mem l n hn) o ho).1
  have hni : (n : Int) < l.length := by omega
  have hng : ¬ ((l.length : Int) ≤ n) := by omega
  have hnd : decide ((l.length : Int) ≤ n) = false := by simpa using hng
  have hn0 : ¬ ((n : Int) < 0) := by omega
  have hnd0 : decide ((n : Int) < 0) = false := decide_eq_false hn0
  clear h1 h6 hbytes hrow hcell hops
  generalize l.getD n default = X at *
  obtain ⟨xp, xs, xf, xt, xo⟩ := X
  simp only [MTxn.proc, MTxn.state, MTxn.since, MTxn.till, MTxn.ops, TxPost] at *
  have CP : Hid (∀ W, Below w.heap.size w W → Calls Try.prog 30 #[.slice oa xo.length oc] W fun e w' => ∃ v', e = .returned v' ∧ OpsOwn (fun b => W.heap.size ≤ b) w' v' xo ∧ Below W.heap.size W w') := fun W hb => copy_is _ xo W (HOP.out.keep (keeps_below hb) (fun _ _ h => h)) HKS.out
  go_enter Try.func67, Try.ntmps67
  go_upto_region 4 with (go_at_call 21; refine (CO.out _ (below_box w _)).mono ?_; rintro e w' ⟨rfl, rfl⟩)
  obtain ⟨W, hW⟩ : ∃ W, (w.alloc (.cells #[.int .i64 0, .int .i64 0, .int .i64 0, .int .i64 0, .slice none 0 0] 47)).alloc (.cells #[.int .i64 xp, .int .i64 xs, .int .i64 xf, .int .i64 xt, .slice oa xo.length oc] 47) = W := ⟨_, rfl⟩
  obtain ⟨xb, hxb⟩ : ∃ xb, w.heap.size = xb := ⟨_, rfl⟩
  have BW : Hid (Below w.heap.size w W) := by rw [← hW]; exact (below_box w _).alloc (by rw [alloc_size]; omega) _
  have hWs : W.heap.size = xb + 2 := by rw [← hW, ← hxb, alloc_size, alloc_size]
  have p0 : W.cell? ⟨xb + 1, 0, none⟩ = some (.int .i64 xp) := by rw [← hW, ← hxb]; simp
  have p1 : W.cell? ⟨xb + 1, 1, none⟩ = some (.int .i64 xs) := by rw [← hW, ← hxb]; simp
  have p2 : W.cell? ⟨xb + 1, 2, none⟩ = some (.int .i64 xf) := by rw [← hW, ← hxb]; simp
  have p3 : W.cell? ⟨xb + 1, 3, none⟩ = some (.int .i64 xt) := by rw [← hW, ← hxb]; simp
  have p4 : W.cell? ⟨xb + 1, 4, none⟩ = some (.slice oa xo.length oc) := by rw [← hW, ← hxb]; simp
  have r0 : W.cell? ⟨xb, 0, none⟩ = some (.int .i64 0) := by rw [← hW, ← hxb]; simp
  have r1 : W.cell? ⟨xb, 1, none⟩ = some (.int .i64 0) := by rw [← hW, ← hxb]; simp
  have r2 : W.cell? ⟨xb, 2, none⟩ = some (.int .i64 0) := by rw [← hW, ← hxb]; simp
  have r3 : W.cell? ⟨xb, 3, none⟩ = some (.int .i64 0) := by rw [← hW, ← hxb]; simp
  have r4 : W.cell? ⟨xb, 4, none⟩ = some (.slice none 0 0) := by rw [← hW, ← hxb]; simp
  have fz : ∀ i, W.frozen? ⟨xb, i, none⟩ = false := fun i => by rw [← hW, ← hxb]; exact (((below_box (w.alloc _) _).frozen (p := ⟨w.heap.size, i, none⟩) (by show w.heap.size < (w.alloc _).heap.size; rw [alloc_size]; omega))).trans (Lib.frozen_of_heap (heap_alloc_new w _) i)
  have fz2 : ∀ i, W.frozen? ⟨xb + 1, i, none⟩ = false := fun i => by rw [← hW, ← hxb]; have h := Lib.frozen_of_heap (heap_alloc_new (w.alloc (.cells #[.int .i64 0, .int .i64 0, .int .i64 0, .int .i64 0, .slice none 0 0] 47)) (.cells #[.int .i64 xp, .int .i64 xs, .int .i64 xf, .int .i64 xt, .slice oa xo.length oc] 47)) i; rw [alloc_size] at h; exact h
  rw [hW, hxb]
  have CPW := hid (CP.out W BW.out)
  clear hW d0 d1 d2 d3 d4 CO CP
  go_wp2_with (go_at_call 30; refine CPW.out.mono ?_; rintro e w3 ⟨v3, rfl, h3, b3⟩; obtain ⟨na, nc, rfl, hn3⟩ := id h3; have H3 := hid h3; have B3 := hid b3; have q0 := (b3.cell (p := ⟨xb + 1, 0, none⟩) (by show xb + 1 < W.heap.size; omega)).trans p0; have q1 := (b3.cell (p := ⟨xb + 1, 1, none⟩) (by show xb + 1 < W.heap.size; omega)).trans p1; have q2 := (b3.cell (p := ⟨xb + 1, 2, none⟩) (by show xb + 1 < W.heap.size; omega)).trans p2; have q3 := (b3.cell (p := ⟨xb + 1, 3, none⟩) (by show xb + 1 < W.heap.size; omega)).trans p3; have q4 := (b3.cell (p := ⟨xb + 1, 4, none⟩) (by show xb + 1 < W.heap.size; omega)).trans p4; have g4 : w3.frozen? ⟨xb + 1, 4, none⟩ = false := (b3.frozen (p := ⟨xb + 1, 4, none⟩) (by show xb + 1 < W.heap.size; omega)).trans (fz2 4); have s0 := (b3.cell (p := ⟨xb, 0, none⟩) (by show xb < W.heap.size; omega)).trans r0; have s1 := (b3.cell (p := ⟨xb, 1, none⟩) (by show xb < W.heap.size; omega)).trans r1; have s2 := (b3.cell (p := ⟨xb, 2, none⟩) (by show xb < W.heap.size; omega)).trans r2; have s3 := (b3.cell (p := ⟨xb, 3, none⟩) (by show xb < W.heap.size; omega)).trans r3; have s4 := (b3.cell (p := ⟨xb, 4, none⟩) (by show xb < W.heap.size; omega)).trans r4; have f0 : w3.frozen? ⟨xb, 0, none⟩ = false := (b3.frozen (p := ⟨xb, 0, none⟩) (by show xb < W.heap.size; omega)).trans (fz 0); have f1 : w3.frozen? ⟨xb, 1, none⟩ = false := (b3.frozen (p := ⟨xb, 1, none⟩) (by show xb < W.heap.size; omega)).trans (fz 1); have f2 : w3.frozen? ⟨xb, 2, none⟩ = false := (b3.frozen (p := ⟨xb, 2, none⟩) (by show xb < W.heap.size; omega)).trans (fz 2); have f3 : w3.frozen? ⟨xb, 3, none⟩ = false := (b3.frozen (p := ⟨xb, 3, none⟩) (by show xb < W.heap.size; omega)).trans (fz 3); have f4 : w3.frozen? ⟨xb, 4, none⟩ = false := (b3.frozen (p := ⟨xb, 4, none⟩) (by show xb < W.heap.size; omega)).trans (fz 4); clear h3 b3 hn3 p0 p1 p2 p3 p4 r0 r1 r2 r3 r4 fz fz2 CPW)
  refine bodyPost_ret (v := .agg #[.int .i64 xp, .int .i64 xs, .int .i64 xf, .int .i64 xt, .slice na xo.length nc]) (by simp [results, Try.results67, go_sem, s0, s1, s2, s3, s4, q0, q1, q2, q3, q4]) rfl ?_
  have hxw : w.heap.size = xb := hxb
  have hb3 := B3.out.size
  have hbw := BW.out.size
  have e1 : w.heap.size ≤ xb := by omega
  have e2 : w.heap.size ≤ xb + 1 := by omega
  refine ⟨na, xo.length, nc, rfl, H3.out.keep (fun b hb hbl => ?_) (fun b _ hb => by omega), ((((((BW.out.trans (B3.out.mono hbw)).setCell e2 _).setCell e1 _).setCell e1 _).setCell e1 _).setCell e1 _).setCell e1 _⟩
  have n1 : b ≠ xb := by omega
  have n2 : b ≠ xb + 1 := by omega
  exact (set_ne n1).trans ((set_ne n1).trans ((set_ne n1).trans ((set_ne n1).trans ((set_ne n1).trans (set_ne n2)))))
end Go.Proofs.Ytnfbcmnlloipiaa
