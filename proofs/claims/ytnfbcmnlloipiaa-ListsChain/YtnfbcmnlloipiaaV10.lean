/-
  A table's kinds and transactions, one by one.
  lookAt, where something is told of the key.
  An append of nothing; a row out of a row.
-/
import Derived.Test.YtnfbcmnlloipiaaV9
import Derived.Deep.RegionHeld3
import Derived.Test.YtnfbcmnlloipiaaV5
import Derived.Lib.SlFresh
namespace Go.Proofs.Ytnfbcmnlloipiaa
set_option linter.unusedVariables false
set_option linter.unusedSimpArgs false
open Go.RowKit Go.Lib Go.Maps
open Tx (MTxn info_parts flatten_len flatten_get RowsIn.cells RowCells TxnRow TxnsIn TxnsOwn setCell_self cloneInts_any OpsOwn smallL cutTxn cutOp)

theorem tkind_is (B : Nat) (w : World) (tb : Nat) (l : List MTxn) (h : Made B w tb l) (s : ByteArray) (hs : s.size ≤ maxLen) :
    Calls Try.prog 65 #[.pointer (some ⟨tb, 0, none⟩), .string s] w fun e w' => e = .returned (.int .i64 (kindN (notes l l.length) s)) ∧ w = w' := by
  obtain ⟨kb, wb, lb, tv, kv, F, D, m, u, h1, _⟩ := h
  obtain ⟨_, _, c2, _, _, _⟩ := h1.c
  have LK := h1.ks.look s hs
  clear h1
  go_enter Try.func65, Try.ntmps65
  go_wp2
  go_ret
  exact ⟨rfl, rfl⟩
/-- What Txn answers: a transaction with operations in new memory. -/
def TxPost (t : MTxn) (w : World) (e : Ending) (w' : World) : Prop := ∃ a n c, e = .returned (.agg #[.int .i64 t.proc, .int .i64 t.state, .int .i64 t.since, .int .i64 t.till, .slice a n c]) ∧ OpsOwn (fun b => w.heap.size ≤ b) w' (.slice a n c) t.ops ∧ Below w.heap.size w w'
set_option maxHeartbeats 4000000 in
set_option maxRecDepth 100000 in
theorem ttx_in (B : Nat) (w : World) (tb : Nat) (l : List MTxn) (h : Made B w tb l) (n : Nat) (hn : n < l.length) (hl : l.length ≤ 1000) (hok : ∀ t ∈ l, ∀ o ∈ t.ops, OpOk o) :
    Calls Try.prog 67 #[.pointer (some ⟨tb, 0, none⟩), .int .i64 (n : Int)] w fun e w' => TxPost (l.getD n default) w e w' := by
  have M := hid h
  have CO : Hid (∀ W, Below w.heap.size w W → Calls Try.prog 21 #[.pointer (some ⟨tb, 0, none⟩)] W fun e w' => e = .returned (.int .i64 (l.length : Int)) ∧ W = w') := fun W hb => count_is B W tb l (M.out.later hb)
  obtain ⟨kb, wb, lb, tv, kv, F, D, m, u, h1, _, _, _, _, h6, _⟩ := h
  obtain ⟨c0, _⟩ := h1.c
  have htl := (h1.flt tb h1.ft).2
  obtain ⟨ao, cc, rfl, hbytes, hrow⟩ := RowsIn.cells h6 (by omega)
  obtain ⟨b, o, cs, rfl, hbl, _, ⟨ov, hcs, hops⟩, hcell⟩ := hrow n hn
  subst hcs
  obtain ⟨oa, oc, hov, _⟩ := id hops
  subst hov
  have d0 := hcell 0 _ rfl
  have d1 := hcell 1 _ rfl
  have d2 := hcell 2 _ rfl
  have d3 := hcell 3 _ rfl
  have d4 := hcell 4 _ rfl
  rw [Nat.add_zero] at d0
  have HOP := hid hops
  have HKS : Hid (∀ o ∈ (l.getD n default).ops, o.key.size ≤ 281474976710656) := fun o ho => (hok _ (getD_mem l n hn) o ho).1
  have hni : (n : Int) < l.length := by omega
  have hng : ¬ ((l.length : Int) ≤ n) := by omega
  have hnd : decide ((l.length : Int) ≤ n) = false := by simpa using hng
  have hn0 : ¬ ((n : Int) < 0) := by omega
  have hnd0 : decide ((n : Int) < 0) = false := decide_eq_false hn0
  clear h1 h6 hbytes hrow hcell hops
  generalize l.getD n default = X at *
  obtain ⟨xp, xs, xf, xt, xo⟩ := X
  simp only [MTxn.proc, MTxn.state, MTxn.since, MTxn.till, MTxn.ops, TxPost] at *
  have CP : Hid (∀ W, Below w.heap.size w W → Calls Try.prog 30 #[.slice oa xo.length oc] W fun e w' => ∃ v', e = .returned v' ∧ OpsOwn (fun b => W.heap.size ≤ b) w' v' xo ∧ Below W.heap.size W w') := fun W hb => copy_is _ xo W (HOP.out.keep (keeps_below hb) (fun _ _ h => h)) HKS.out
  go_enter Try.func67, Try.ntmps67
  go_upto_region 4 with (go_at_call 21; refine (CO.out _ (below_box w _)).mono ?_; rintro e w' ⟨rfl, rfl⟩)
  obtain ⟨W, hW⟩ : ∃ W, (w.alloc (.cells #[.int .i64 0, .int .i64 0, .int .i64 0, .int .i64 0, .slice none 0 0] 47)).alloc (.cells #[.int .i64 xp, .int .i64 xs, .int .i64 xf, .int .i64 xt, .slice oa xo.length oc] 47) = W := ⟨_, rfl⟩
  obtain ⟨xb, hxb⟩ : ∃ xb, w.heap.size = xb := ⟨_, rfl⟩
  have BW : Hid (Below w.heap.size w W) := by rw [← hW]; exact (below_box w _).alloc (by rw [alloc_size]; omega) _
  have hWs : W.heap.size = xb + 2 := by rw [← hW, ← hxb, alloc_size, alloc_size]
  have p0 : W.cell? ⟨xb + 1, 0, none⟩ = some (.int .i64 xp) := by rw [← hW, ← hxb]; simp
  have p1 : W.cell? ⟨xb + 1, 1, none⟩ = some (.int .i64 xs) := by rw [← hW, ← hxb]; simp
  have p2 : W.cell? ⟨xb + 1, 2, none⟩ = some (.int .i64 xf) := by rw [← hW, ← hxb]; simp
  have p3 : W.cell? ⟨xb + 1, 3, none⟩ = some (.int .i64 xt) := by rw [← hW, ← hxb]; simp
  have p4 : W.cell? ⟨xb + 1, 4, none⟩ = some (.slice oa xo.length oc) := by rw [← hW, ← hxb]; simp
  have r0 : W.cell? ⟨xb, 0, none⟩ = some (.int .i64 0) := by rw [← hW, ← hxb]; simp
  have r1 : W.cell? ⟨xb, 1, none⟩ = some (.int .i64 0) := by rw [← hW, ← hxb]; simp
  have r2 : W.cell? ⟨xb, 2, none⟩ = some (.int .i64 0) := by rw [← hW, ← hxb]; simp
  have r3 : W.cell? ⟨xb, 3, none⟩ = some (.int .i64 0) := by rw [← hW, ← hxb]; simp
  have r4 : W.cell? ⟨xb, 4, none⟩ = some (.slice none 0 0) := by rw [← hW, ← hxb]; simp
  have fz : ∀ i, W.frozen? ⟨xb, i, none⟩ = false := fun i => by rw [← hW, ← hxb]; exact (((below_box (w.alloc _) _).frozen (p := ⟨w.heap.size, i, none⟩) (by show w.heap.size < (w.alloc _).heap.size; rw [alloc_size]; omega))).trans (Lib.frozen_of_heap (heap_alloc_new w _) i)
  have fz2 : ∀ i, W.frozen? ⟨xb + 1, i, none⟩ = false := fun i => by rw [← hW, ← hxb]; have h := Lib.frozen_of_heap (heap_alloc_new (w.alloc (.cells #[.int .i64 0, .int .i64 0, .int .i64 0, .int .i64 0, .slice none 0 0] 47)) (.cells #[.int .i64 xp, .int .i64 xs, .int .i64 xf, .int .i64 xt, .slice oa xo.length oc] 47)) i; rw [alloc_size] at h; exact h
  rw [hW, hxb]
  have CPW := hid (CP.out W BW.out)
  clear hW d0 d1 d2 d3 d4 CO CP
  go_wp2_with (go_at_call 30; refine CPW.out.mono ?_; rintro e w3 ⟨v3, rfl, h3, b3⟩; obtain ⟨na, nc, rfl, hn3⟩ := id h3; have H3 := hid h3; have B3 := hid b3; have q0 := (b3.cell (p := ⟨xb + 1, 0, none⟩) (by show xb + 1 < W.heap.size; omega)).trans p0; have q1 := (b3.cell (p := ⟨xb + 1, 1, none⟩) (by show xb + 1 < W.heap.size; omega)).trans p1; have q2 := (b3.cell (p := ⟨xb + 1, 2, none⟩) (by show xb + 1 < W.heap.size; omega)).trans p2; have q3 := (b3.cell (p := ⟨xb + 1, 3, none⟩) (by show xb + 1 < W.heap.size; omega)).trans p3; have q4 := (b3.cell (p := ⟨xb + 1, 4, none⟩) (by show xb + 1 < W.heap.size; omega)).trans p4; have g4 : w3.frozen? ⟨xb + 1, 4, none⟩ = false := (b3.frozen (p := ⟨xb + 1, 4, none⟩) (by show xb + 1 < W.heap.size; omega)).trans (fz2 4); have s0 := (b3.cell (p := ⟨xb, 0, none⟩) (by show xb < W.heap.size; omega)).trans r0; have s1 := (b3.cell (p := ⟨xb, 1, none⟩) (by show xb < W.heap.size; omega)).trans r1; have s2 := (b3.cell (p := ⟨xb, 2, none⟩) (by show xb < W.heap.size; omega)).trans r2; have s3 := (b3.cell (p := ⟨xb, 3, none⟩) (by show xb < W.heap.size; omega)).trans r3; have s4 := (b3.cell (p := ⟨xb, 4, none⟩) (by show xb < W.heap.size; omega)).trans r4; have f0 : w3.frozen? ⟨xb, 0, none⟩ = false := (b3.frozen (p := ⟨xb, 0, none⟩) (by show xb < W.heap.size; omega)).trans (fz 0); have f1 : w3.frozen? ⟨xb, 1, none⟩ = false := (b3.frozen (p := ⟨xb, 1, none⟩) (by show xb < W.heap.size; omega)).trans (fz 1); have f2 : w3.frozen? ⟨xb, 2, none⟩ = false := (b3.frozen (p := ⟨xb, 2, none⟩) (by show xb < W.heap.size; omega)).trans (fz 2); have f3 : w3.frozen? ⟨xb, 3, none⟩ = false := (b3.frozen (p := ⟨xb, 3, none⟩) (by show xb < W.heap.size; omega)).trans (fz 3); have f4 : w3.frozen? ⟨xb, 4, none⟩ = false := (b3.frozen (p := ⟨xb, 4, none⟩) (by show xb < W.heap.size; omega)).trans (fz 4); clear h3 b3 hn3 p0 p1 p2 p3 p4 r0 r1 r2 r3 r4 fz fz2 CPW)
  refine bodyPost_ret (v := .agg #[.int .i64 xp, .int .i64 xs, .int .i64 xf, .int .i64 xt, .slice na xo.length nc]) (by simp [results, Try.results67, go_sem, s0, s1, s2, s3, s4, q0, q1, q2, q3, q4]) rfl ?_
  have hxw : w.heap.size = xb := hxb
  have hb3 := B3.out.size
  have hbw := BW.out.size
  have e1 : w.heap.size ≤ xb := by omega
  have e2 : w.heap.size ≤ xb + 1 := by omega
  refine ⟨na, xo.length, nc, rfl, H3.out.keep (fun b hb hbl => ?_) (fun b _ hb => by omega), ((((((BW.out.trans (B3.out.mono hbw)).setCell e2 _).setCell e1 _).setCell e1 _).setCell e1 _).setCell e1 _).setCell e1 _⟩
  have n1 : b ≠ xb := by omega
  have n2 : b ≠ xb + 1 := by omega
  exact (set_ne n1).trans ((set_ne n1).trans ((set_ne n1).trans ((set_ne n1).trans ((set_ne n1).trans (set_ne n2)))))
end Go.Proofs.Ytnfbcmnlloipiaa
namespace Go.Proofs.Ytnfbcmnlloipiaa
set_option linter.unusedVariables false
set_option linter.unusedSimpArgs false
open Go.RowKit Go.Lib Go.Maps
open Tx (MTxn OpsOwn RowsIn.cells)

abbrev lkV (s : ByteArray) (rv : Value) (ti t2 : Nat) (ta : Option Addr) (tn tc sb : Nat) : Value := .agg #[.string s, rv, .int .i64 ti, .int .i64 t2, .slice ta tn tc, .map (some sb)]
/-- What lookAt answers where something is told of the key. -/
def LookY (l : List MTxn) (s : ByteArray) (w : World) (e : Ending) (w' : World) : Prop := ∃ R t2 ta tc n rv sb, e = .returned (.tuple #[lkV s rv (knwN l s (notes l l.length)).ti t2 ta (knwN l s (notes l l.length)).ts.length tc sb, .bool true]) ∧ w'.ownsRow w.heap.size 77 3 rv R.length (rdC R) ∧ RdsD (fun b => w.heap.size ≤ b) w' R (rdsN l s (notes l l.length)) ∧ IntsIn (fun b => w.heap.size ≤ b) w' (.slice ta (knwN l s (notes l l.length)).ts.length tc) (knwN l s (notes l l.length)).ts ∧ Sc w' sb n (srcN l s (notes l l.length)) ∧ w.heap.size ≤ sb ∧ Below w.heap.size w w'
theorem own_base {B B' : Nat} {w : World} {e : TypeId} {z n : Nat} {v : Value} {xs : List Value} (h : w.ownsRow B e z v n xs) (hb : B' ≤ B) : w.ownsRow B' e z v n xs := by
  obtain ⟨h1, h2⟩ := h
  refine ⟨h1, ?_⟩
  rcases h2 with h2 | ⟨g, cap, cur, a, b, c⟩
  · exact .inl h2
  · exact .inr ⟨g, cap, cur, a, by omega, c⟩
/-- A transaction as Txn answers it, its parts named. -/
theorem tx_parts {t : MTxn} {w w' : World} {e : Ending} (h : TxPost t w e w') : ∃ a c, e = .returned (.agg #[.int .i64 t.proc, .int .i64 t.state, .int .i64 t.since, .int .i64 t.till, .slice a t.ops.length c]) ∧ OpsIn (fun b => w.heap.size ≤ b) w' (.slice a t.ops.length c) t.ops ∧ Below w.heap.size w w' := by
  obtain ⟨a, n, c, rfl, ho, hb⟩ := h
  have h2 := ho.ops
  obtain ⟨a', c', hv, _⟩ := id h2
  cases hv
  exact ⟨a, c, rfl, h2, hb⟩
theorem fin_parts {B tb : Nat} {l : List MTxn} {W : World} (h : Made B W tb l) (hl : l.length ≤ 1000) (hten : ∀ t ∈ l, t.ops.length ≤ 10) (hok : ∀ t ∈ l, ∀ o ∈ t.ops, OpOk o) (n i : Nat) (hn : n < l.length) : Calls Try.prog 68 #[.pointer (some ⟨tb, 0, none⟩), .agg #[.int .i64 (n : Int), .int .i64 (i : Int)]] W fun e w' => e = .returned (.bool (finB (l.getD n default).ops i)) ∧ Below W.heap.size W w' := by
  refine (tfinal_is B W tb l h n i hl hten hok).mono ?_
  rintro e w' ⟨f, rfl, hf, hb⟩
  have : f = finB (l.getD n default).ops i := by
    rw [Bool.eq_iff_iff, hf, finB_is]
    unfold finL
    constructor
    · intro hh
      simpa using hh.2.2.2
    · intro hh
      exact ⟨by omega, by omega, by omega, by simpa using hh⟩
  rw [this]
  exact ⟨rfl, hb⟩
theorem this_lt {l : List MTxn} {s : ByteArray} {w : World} {D : Nat → Prop} {M : List MN} {wr : World} (h : LkE l s w D M wr) {b : Nat} (hD : D b) : b < wr.heap.size := by
  obtain ⟨R, t2, ta, tc, n, rv, h⟩ := h
  exact (h.lo b hD).2
theorem lk_lo {l : List MTxn} {s : ByteArray} {w : World} {D : Nat → Prop} {M : List MN} {wr : World} (h : LkE l s w D M wr) {b : Nat} (hD : D b) : w.heap.size + 3 ≤ b := by
  obtain ⟨R, t2, ta, tc, n, rv, h⟩ := h
  exact (h.lo b hD).1
theorem lk_map {l : List MTxn} {s : ByteArray} {w : World} {D : Nat → Prop} {M : List MN} {wr : World} (h : LkE l s w D M wr) : wr.cell? ⟨w.heap.size + 1 + 1, 5, none⟩ = some (.map (some (w.heap.size + 1))) := by
  obtain ⟨R, t2, ta, tc, n, rv, h⟩ := h
  exact Lib.cell_of_heap h.lg.box 5
theorem lk_start (l : List MTxn) (s : ByteArray) (w : World) : LkE l s w (fun _ => False) (notes l 0) (((w.alloc (.cells zeroLk 80)).alloc (.map #[] 0)).alloc (.cells #[.string s, .slice none 0 0, .int .i64 0, .int .i64 0, .slice none 0 0, .map (some (w.heap.size + 1))] 80)) := by
  have e0 : notes l 0 = [] := rfl
  have s1 : (w.alloc (.cells zeroLk 80)).heap.size = w.heap.size + 1 := by rw [alloc_size]
  have s2 : ((w.alloc (.cells zeroLk 80)).alloc (.map #[] 0)).heap.size = w.heap.size + 2 := by rw [alloc_size, s1]
  have m := Sc.made (w.alloc (.cells zeroLk 80))
  rw [s1] at m
  rw [e0]
  refine ⟨[], 0, none, 0, 0, .slice none 0 0, ⟨?_, World.ownsRow_nil _ _ _ _⟩, ⟨rfl, fun j hj => by simp at hj⟩, ⟨none, 0, rfl, ⟨by simp [knwN, rdsN, longR], by simp [knwN, rdsN, longR]⟩, fun hc => by simp [knwN, rdsN, longR] at hc⟩, ?_, Nat.le_refl _, fun b hb => hb.elim, fun g _ hb => hb, ?_, ?_⟩
  · have := heap_alloc_new ((w.alloc (.cells zeroLk 80)).alloc (.map #[] 0)) (.cells #[.string s, .slice none 0 0, .int .i64 0, .int .i64 0, .slice none 0 0, .map (some (w.heap.size + 1))] 80)
    rw [s2] at this
    exact this
  · have e : srcN l s [] = fun _ => none := rfl
    rw [e]
    exact m.same (by rw [alloc_at, if_neg (by rw [s2]; omega)])
  · rw [alloc_at, if_neg (by rw [s2]; omega), alloc_at, if_neg (by rw [s1]; omega)]
    exact heap_alloc_new w _
  · exact ((below_box w _).alloc (by rw [alloc_size]; omega) _).alloc (by rw [alloc_size, alloc_size]; omega) _
set_option maxHeartbeats 16000000 in
set_option maxRecDepth 100000 in
theorem look_yes (B tb : Nat) (l : List MTxn) (s : ByteArray) (w : World) (h : Made B w tb l) (hs : s.size ≤ maxLen) (hl : l.length ≤ 1000) (hten : ∀ t ∈ l, t.ops.length ≤ 10) (hok : ∀ t ∈ l, ∀ o ∈ t.ops, OpOk o) (hwl : ∀ t ∈ l, ∀ o ∈ t.ops, ∀ x ∈ o.list, (Lit.int .i64 x).wf = true) (hk : kindN (notes l l.length) s = 1) (hu : uniqN (notes l l.length)) : Calls Try.prog 41 #[.pointer (some ⟨tb, 0, none⟩), .string s] w fun e w' => LookY l s w e w' := by
  have hmm := @run_makeMap Try.prog
  have M := hid h
  have KI : Hid (∀ W, Below w.heap.size w W → Calls Try.prog 65 #[.pointer (some ⟨tb, 0, none⟩), .string s] W fun e w' => e = .returned (.int .i64 1) ∧ W = w') := fun W hb => by
    have h := tkind_is B W tb l (M.out.later hb) s hs
    rw [hk] at h
    exact h
  have UN : Hid (∀ W, Below w.heap.size w W → Calls Try.prog 66 #[.pointer (some ⟨tb, 0, none⟩)] W fun e w' => e = .returned (.bool true) ∧ W = w') := fun W hb => by
    refine (uniq_is B W tb l (M.out.later hb)).mono ?_
    rintro e w' ⟨u, rfl, hu', rfl⟩
    rw [hu'.2 hu]
    exact ⟨rfl, rfl⟩
  have CO : Hid (∀ W, Below w.heap.size w W → Calls Try.prog 21 #[.pointer (some ⟨tb, 0, none⟩)] W fun e w' => e = .returned (.int .i64 (l.length : Int)) ∧ W = w') := fun W hb => count_is B W tb l (M.out.later hb)
  have TX : Hid (∀ W, Below w.heap.size w W → ∀ n : Nat, n < l.length → Calls Try.prog 67 #[.pointer (some ⟨tb, 0, none⟩), .int .i64 (n : Int)] W fun e w' => ∃ a c, e = .returned (.agg #[.int .i64 (l.getD n default).proc, .int .i64 (l.getD n default).state, .int .i64 (l.getD n default).since, .int .i64 (l.getD n default).till, .slice a (l.getD n default).ops.length c]) ∧ OpsIn (fun b => W.heap.size ≤ b) w' (.slice a (l.getD n default).ops.length c) (l.getD n default).ops ∧ Below W.heap.size W w') := fun W hb n hn => (ttx_in B W tb l (M.out.later hb) n hn hl hok).mono fun e w' h => tx_parts h
  have FI : Hid (∀ W, Below w.heap.size w W → ∀ n i : Nat, n < l.length → Calls Try.prog 68 #[.pointer (some ⟨tb, 0, none⟩), .agg #[.int .i64 (n : Int), .int .i64 (i : Int)]] W fun e w' => e = .returned (.bool (finB (l.getD n default).ops i)) ∧ Below W.heap.size W w') := fun W hb n i hn => fin_parts (M.out.later hb) hl hten hok n i hn
  have HTEN := hid hten
  have HOK := hid hok
  have HWL := hid hwl
  have hli : (l.length : Int) ≤ 1000 := by omega
  have b1 : ∀ o, Hid (Below w.heap.size w (w.alloc o)) := fun o => below_box w o
  have b3 : ∀ o p q, Hid (Below w.heap.size w (((w.alloc o).alloc p).alloc q)) := fun o p q => ((below_box w o).alloc (by rw [alloc_size]; omega) p).alloc (by rw [alloc_size, alloc_size]; omega) q
  clear h hten hok hwl hk hu hs M
  go_enter Try.func41, Try.ntmps41
  go_wp2_with (first | (go_at_call 65; refine (KI.out _ (b1 _).out).mono ?_; rintro e w' ⟨rfl, rfl⟩) | (go_at_call 66; refine (UN.out _ (b1 _).out).mono ?_; rintro e w' ⟨rfl, rfl⟩) | (go_at_call 21; refine (CO.out _ (b3 _ _ _).out).mono ?_; rintro e w' ⟨rfl, rfl⟩))
  have S0 := hid (lk_start l s w)
  unfold zeroLk at S0
  generalize ((w.alloc (.cells #[.string ⟨#[]⟩, .slice none 0 0, .int .i64 0, .int .i64 0, .slice none 0 0, .map none] 80)).alloc (.map #[] 0)).alloc (.cells #[.string s, .slice none 0 0, .int .i64 0, .int .i64 0, .slice none 0 0, .map (some (w.heap.size + 1))] 80) = W0 at *
  clear hmm b1 b3 KI UN CO
  go_loopg [7, 8, 9, 10, 11, 27] l.length (fun gg _ _ _ _ _ i wr => ∃ k : Nat, k ≤ l.length ∧ l.length - k ≤ gg ∧ i = .int .i64 k ∧ Aside (∃ D, LkE l s w D (notes l k) wr))
  case atStart => exact ⟨0, Nat.zero_le _, by omega, rfl, ⟨_, S0.out⟩⟩
  case round =>
    obtain ⟨k, hkl, hgk, rfl, SR⟩ := hrel
    by_cases hlt : k < l.length
    · have hlti : (k : Int) < l.length := by omega
      obtain ⟨D, L0⟩ := SR.out
      have L0 := hid L0
      have TK := hid (TX.out wr L0.out.below k hlt)
      have FK : Hid (∀ W, Below w.heap.size w W → ∀ i : Nat, Calls Try.prog 68 #[.pointer (some ⟨tb, 0, none⟩), .agg #[.int .i64 (k : Int), .int .i64 (i : Int)]] W fun e w' => e = .returned (.bool (finB (l.getD k default).ops i)) ∧ Below W.heap.size W w') := fun W hb i => FI.out W hb k i hlt
      have hmem : l.getD k default ∈ l := by simp [List.getD, List.getElem?_eq_getElem hlt]
      have hT10 : (l.getD k default).ops.length ≤ 10 := HTEN.out _ hmem
      have HOT : Hid (∀ o ∈ (l.getD k default).ops, OpOk o) := HOK.out _ hmem
      have HWT : Hid (∀ o ∈ (l.getD k default).ops, ∀ x ∈ o.list, (Lit.int .i64 x).wf = true) := HWL.out _ hmem
      have hNl := notes_len l HTEN.out k
      obtain ⟨T, hT⟩ : ∃ T, (l.getD k default).ops = T := ⟨_, rfl⟩
      obtain ⟨st, hst⟩ : ∃ st, (l.getD k default).state = st := ⟨_, rfl⟩
      have HNT : Hid (notes l (k + 1) = notes l k ++ notesT k T) := by show _ = _; rw [← hT]; rfl
      have HST := hid hst
      have HT := hid hT
      rw [hT] at TK FK hT10 HOT HWT
      rw [hst] at TK
      generalize (l.getD k default).proc = xp at TK
      generalize (l.getD k default).since = xf at TK
      generalize (l.getD k default).till = xt at TK
      clear hT hst hmem SR TX FI HTEN HOK HWL
      go_wp2_with (go_at_call 67; refine TK.out.mono ?_; rintro e w2 ⟨a2, c2, rfl, o2, b2⟩; have O2 := hid o2; have B2 := hid b2; clear o2 b2)
      have B3 : Hid (Below wr.heap.size wr (w2.alloc (.cells #[.int .i64 xp, .int .i64 st, .int .i64 xf, .int .i64 xt, .slice a2 T.length c2] 47))) := B2.out.alloc B2.out.size _
      have S3 : (w2.alloc (.cells #[.int .i64 xp, .int .i64 st, .int .i64 xf, .int .i64 xt, .slice a2 T.length c2] 47)).heap.size = w2.heap.size + 1 := by rw [alloc_size]
      have X3 : Hid ((w2.alloc (.cells #[.int .i64 xp, .int .i64 st, .int .i64 xf, .int .i64 xt, .slice a2 T.length c2] 47)).heap[w2.heap.size]? = some (.cells #[.int .i64 xp, .int .i64 st, .int .i64 xf, .int .i64 xt, .slice a2 T.length c2] 47)) := heap_alloc_new w2 _
      have O3 : Hid (OpsIn (fun b => wr.heap.size ≤ b ∧ b < w2.heap.size) (w2.alloc (.cells #[.int .i64 xp, .int .i64 st, .int .i64 xf, .int .i64 xt, .slice a2 T.length c2] 47)) (.slice a2 T.length c2) T) := O2.out.keep (fun b _ hb => by rw [alloc_at, if_neg (by omega)]) (fun b hb h => ⟨h, hb⟩)
      generalize w2.alloc (.cells #[.int .i64 xp, .int .i64 st, .int .i64 xf, .int .i64 xt, .slice a2 T.length c2] 47) = W3 at *
      have L3 := hid (L0.out.txn B3.out)
      have OP : Hid (OpsIn (fun b => D b ∨ (wr.heap.size ≤ b ∧ b < W3.heap.size)) W3 (.slice a2 T.length c2) T) := O3.out.keep (fun _ _ _ => rfl) (fun b _ h => .inr ⟨h.1, by omega⟩)
      have DX : Hid ((fun b => D b ∨ (wr.heap.size ≤ b ∧ b < W3.heap.size)) w2.heap.size) := .inr ⟨B2.out.size, by omega⟩
      have hxl : w2.heap.size < W3.heap.size := by omega
      clear TK L0 O2 B2 O3
      generalize (fun b => D b ∨ (wr.heap.size ≤ b ∧ b < W3.heap.size)) = D' at *
      generalize w2.heap.size = xb at *
      obtain ⟨ao2, cc2, hv2, _, HC⟩ := id OP.out
      cases hv2
      have HC := hid HC
      have hTi : (T.length : Int) ≤ 10 := by omega
      clear OP
      go_loopg [9, 10, 11, 36] T.length (fun gg _ _ _ i wi => ∃ j : Nat, j ≤ T.length ∧ T.length - j ≤ gg ∧ i = .int .i64 j ∧ Aside (LkE l s w D' (notes l k ++ (notesT k T).take j) wi ∧ KeepsIn D' W3 wi))
      case atStart => exact ⟨0, Nat.zero_le _, by omega, rfl, (by rw [List.take_zero, List.append_nil]; exact L3.out), fun _ _ _ => rfl⟩
      case round =>
        obtain ⟨j, hj, hgj, rfl, SJ⟩ := hrel
        by_cases hjl : j < T.length
        · have hjli : (j : Int) < T.length := by omega
          obtain ⟨LJ, KJ⟩ := SJ.out
          obtain ⟨ob, oo, hao, hDo, hcs⟩ := HC.out (by omega)
          subst hao
          obtain ⟨cs, _, ⟨lv, hcse, hli2⟩, hcell⟩ := hcs j hjl
          subst hcse
          obtain ⟨la, lc, hlv, _⟩ := id hli2
          subst hlv
          have x0 := KJ.cell (p := ⟨ob, oo + j * 6 + 0, none⟩) hDo (hcell 0 _ rfl)
          have x1 := KJ.cell (p := ⟨ob, oo + j * 6 + 1, none⟩) hDo (hcell 1 _ rfl)
          have x2 := KJ.cell (p := ⟨ob, oo + j * 6 + 2, none⟩) hDo (hcell 2 _ rfl)
          have x3 := KJ.cell (p := ⟨ob, oo + j * 6 + 3, none⟩) hDo (hcell 3 _ rfl)
          have x4 := KJ.cell (p := ⟨ob, oo + j * 6 + 4, none⟩) hDo (hcell 4 _ rfl)
          have x5 := KJ.cell (p := ⟨ob, oo + j * 6 + 5, none⟩) hDo (hcell 5 _ rfl)
          rw [Nat.add_zero] at x0
          have hin : IntsIn D' wr (.slice la (T.getD j default).list.length lc) (T.getD j default).list := hli2.keep KJ (fun _ _ h => h)
          have XW : Hid (wr.heap[xb]? = some (.cells #[.int .i64 xp, .int .i64 st, .int .i64 xf, .int .i64 xt, .slice (some ⟨ob, oo, none⟩) T.length c2] 47)) := (KJ xb DX.out hxl).trans X3.out
          have hMl : (notes l k ++ (notesT k T).take j).length ≤ 100000 := by
            rw [List.length_append, List.length_take, notesT_len]
            omega
          have HTJ : Hid (notes l k ++ (notesT k T).take (j + 1) = (notes l k ++ (notesT k T).take j) ++ [(k, j, T.getD j default)]) := by
            show _ = _
            rw [notesT_take k T j hjl, ← List.append_assoc]
          have hOm : T.getD j default ∈ T := by simp [List.getD, List.getElem?_eq_getElem hjl]
          have hov := (HOT.out _ hOm).2
          have hlw := HWT.out _ hOm
          have FJ : Hid (∀ W, Below w.heap.size w W → Calls Try.prog 68 #[.pointer (some ⟨tb, 0, none⟩), .agg #[.int .i64 (k : Int), .int .i64 (j : Int)]] W fun e w' => e = .returned (.bool (finB T j)) ∧ Below W.heap.size W w') := fun W hb => FK.out W hb j
          obtain ⟨M, hM⟩ : ∃ M, notes l k ++ (notesT k T).take j = M := ⟨_, rfl⟩
          rw [hM] at LJ HTJ hMl
          have HL := hid LJ
          have HKJ := hid KJ
          have HIN := hid hin
          clear hcell hcs hli2 SJ LJ KJ hin hM hOm
          generalize T.getD j default = O at *
          obtain ⟨ok, os, ov, ol, oh, on⟩ := O
          simp only [MOp.kind, MOp.key, MOp.value, MOp.list, MOp.has, MOp.nl] at x0 x1 x2 x3 x4 x5 hov hlw HIN
          have HLW := hid hlw
          have HOV := hid hov
          clear hlw hov
          have hwb : w.heap.size ≤ wr.heap.size := HL.out.below.size
          have hxw : xb < wr.heap.size := blt XW.out
          have hne : ¬ (xb = wr.heap.size) := by omega
          have xa : ∀ o, (wr.alloc o).cell? ⟨xb, 1, none⟩ = some (.int .i64 st) := fun o => Lib.cell?_alloc_some _ (Lib.cell_of_heap XW.out 1)
          have WRT := hid (fun W => writes_is ok W)
          have KA : ∀ o, Hid (KeepsIn D' W3 (wr.alloc o)) := fun o b hD hb => by rw [alloc_at, if_neg (by have := this_lt HL.out hD; omega)]; exact HKJ.out b hD hb
          by_cases hks : os = s
          · subst os
            have hkb : (s.toList == s.toList) = true := by simp
            cases hw : isW ok with
            | true =>
              rw [hw] at WRT
              by_cases h1 : st = 1
              · subst h1
                have BW1 : Hid (Below w.heap.size w (wr.alloc (.cells #[.int .i64 ok, .string s, .int .i64 ov, .slice la ol.length lc, .bool oh, .bool on] 49))) := HL.out.below.trans ((below_box wr _).mono hwb)
                have hbig : w.heap.size + 3 ≤ wr.heap.size := HL.out.big
                have PUT : Hid (∀ W5, Below (wr.alloc (.cells #[.int .i64 ok, .string s, .int .i64 ov, .slice la ol.length lc, .bool oh, .bool on] 49)).heap.size (wr.alloc (.cells #[.int .i64 ok, .string s, .int .i64 ov, .slice la ol.length lc, .bool oh, .bool on] 49)) W5 → ∃ w7, (Instr.mapUpdate 78 (.map (some (w.heap.size + 1))) (.int .i64 ov) (.agg #[.int .i64 (k : Int), .int .i64 (j : Int), .bool false, .bool (finB T j)])).run Try.prog W5 = .ok () w7 ∧ LkE l s w D' (M ++ [(k, j, (ok, s, ov, ol, oh, on))]) w7 ∧ KeepsIn D' W3 w7 ∧ W5.grownBy w7 (some (w.heap.size + 1))) := fun W5 hb => by
                  obtain ⟨w7, r7, l7, g7⟩ := ((HL.out.later (below_box wr (.cells #[.int .i64 ok, .string s, .int .i64 ov, .slice la ol.length lc, .bool oh, .bool on] 49))).later hb).put (k, j, (ok, s, ov, ol, oh, on)) hMl hw rfl HOV.out
                  have e1 : failB (l.getD k default).state = false := by rw [HST.out]; rfl
                  have e2 : finB (l.getD k default).ops j = finB T j := by rw [HT.out]
                  simp only [MOp.value, e1, e2] at r7
                  refine ⟨w7, r7, l7, fun b hD hl => ?_, g7⟩
                  have hb3 := this_lt HL.out hD
                  have hsz : (wr.alloc (.cells #[.int .i64 ok, .string s, .int .i64 ov, .slice la ol.length lc, .bool oh, .bool on] 49)).heap.size = wr.heap.size + 1 := alloc_size _ _
                  have hlo := lk_lo HL.out hD
                  exact (g7.block b (by have := hb.size; omega) (fun e => by injection e; omega)).trans ((hb.block b (by omega)).trans ((KA _).out b hD hl))
                have q2 : (wr.alloc (.cells #[.int .i64 ok, .string s, .int .i64 ov, .slice la ol.length lc, .bool oh, .bool on] 49)).cell? ⟨wr.heap.size, 2, none⟩ = some (.int .i64 ov) := new_cells wr _ 49 2
                have k5 : (wr.alloc (.cells #[.int .i64 ok, .string s, .int .i64 ov, .slice la ol.length lc, .bool oh, .bool on] 49)).cell? ⟨w.heap.size + 1 + 1, 5, none⟩ = some (.map (some (w.heap.size + 1))) := Lib.cell?_alloc_some _ (lk_map HL.out)
                go_wp2_with (go_at_call 58; refine (WRT.out _).mono ?_; rintro e w4 ⟨rfl, rfl⟩)
                go_region_held3 (fun w' => w'.cell? ⟨wr.heap.size, 2, none⟩ = some (.int .i64 ov) ∧ w'.cell? ⟨w.heap.size + 1 + 1, 5, none⟩ = some (.map (some (w.heap.size + 1)))) (go_keep) (first
                  | (go_at_call 68; refine (FJ.out _ (by repeat (first | exact BW1.out | apply Below.drew))).mono ?_; rintro e w5 ⟨rfl, b5⟩; have C5 : Hid (Below (wr.alloc (.cells #[.int .i64 ok, .string s, .int .i64 ov, .slice la ol.length lc, .bool oh, .bool on] 49)).heap.size (wr.alloc (.cells #[.int .i64 ok, .string s, .int .i64 ov, .slice la ol.length lc, .bool oh, .bool on] 49)) w5) := Below.trans (by repeat (first | exact Below.refl _ _ | apply Below.drew)) b5; have r2 : w5.cell? ⟨wr.heap.size, 2, none⟩ = some (.int .i64 ov) := (C5.out.cell (p := ⟨wr.heap.size, 2, none⟩) (by rw [alloc_size]; exact Nat.lt_succ_self _)).trans q2; have r5 : w5.cell? ⟨w.heap.size + 1 + 1, 5, none⟩ = some (.map (some (w.heap.size + 1))) := (C5.out.cell (p := ⟨w.heap.size + 1 + 1, 5, none⟩) (by rw [alloc_size]; show w.heap.size + 1 + 1 < _; omega)).trans k5; obtain ⟨w7, r7, l7, k7, g7⟩ := PUT.out w5 C5.out; have L7 := hid l7; have K7 := hid k7; have s2 : w7.cell? ⟨wr.heap.size, 2, none⟩ = some (.int .i64 ov) := (World.cell?_of_block (a := ⟨wr.heap.size, 2, none⟩) (g7.block _ (World.block_lt_of_cell? _ _ r2) (fun e => by have e2 : wr.heap.size = w.heap.size + 1 := (by first | (injection e) | (injection e with e; exact e.symm)); omega))).trans r2; have s5 : w7.cell? ⟨w.heap.size + 1 + 1, 5, none⟩ = some (.map (some (w.heap.size + 1))) := (World.cell?_of_block (a := ⟨w.heap.size + 1 + 1, 5, none⟩) (g7.block _ (World.block_lt_of_cell? _ _ r5) (fun e => by have e2 : w.heap.size + 1 + 1 = w.heap.size + 1 := (by first | (injection e) | (injection e with e; exact e.symm)); omega))).trans r5; clear b5 l7 k7 g7))
                all_goals (try go_wp2_with fail)
                go_roundg (T.length - (j + 1))
                case measure => omega
                case rel => exact ⟨j + 1, by omega, by omega, by go_num, (by rw [HTJ.out]; exact L7.out), K7.out⟩
              · have h1b : (st == (1 : Int)) = false := by simpa using h1
                have BW1 : Hid (Below w.heap.size w (wr.alloc (.cells #[.int .i64 ok, .string s, .int .i64 ov, .slice la ol.length lc, .bool oh, .bool on] 49))) := HL.out.below.trans ((below_box wr _).mono hwb)
                have hbig : w.heap.size + 3 ≤ wr.heap.size := HL.out.big
                have PUT : Hid (∀ W5, Below (wr.alloc (.cells #[.int .i64 ok, .string s, .int .i64 ov, .slice la ol.length lc, .bool oh, .bool on] 49)).heap.size (wr.alloc (.cells #[.int .i64 ok, .string s, .int .i64 ov, .slice la ol.length lc, .bool oh, .bool on] 49)) W5 → ∃ w7, (Instr.mapUpdate 78 (.map (some (w.heap.size + 1))) (.int .i64 ov) (.agg #[.int .i64 (k : Int), .int .i64 (j : Int), .bool (st != 1 && st != 3), .bool (finB T j)])).run Try.prog W5 = .ok () w7 ∧ LkE l s w D' (M ++ [(k, j, (ok, s, ov, ol, oh, on))]) w7 ∧ KeepsIn D' W3 w7 ∧ W5.grownBy w7 (some (w.heap.size + 1))) := fun W5 hb => by
                  obtain ⟨w7, r7, l7, g7⟩ := ((HL.out.later (below_box wr (.cells #[.int .i64 ok, .string s, .int .i64 ov, .slice la ol.length lc, .bool oh, .bool on] 49))).later hb).put (k, j, (ok, s, ov, ol, oh, on)) hMl hw rfl HOV.out
                  have e1 : failB (l.getD k default).state = (st != 1 && st != 3) := by rw [HST.out]; rfl
                  have e2 : finB (l.getD k default).ops j = finB T j := by rw [HT.out]
                  simp only [MOp.value, e1, e2] at r7
                  refine ⟨w7, r7, l7, fun b hD hl => ?_, g7⟩
                  have hb3 := this_lt HL.out hD
                  have hsz : (wr.alloc (.cells #[.int .i64 ok, .string s, .int .i64 ov, .slice la ol.length lc, .bool oh, .bool on] 49)).heap.size = wr.heap.size + 1 := alloc_size _ _
                  have hlo := lk_lo HL.out hD
                  exact (g7.block b (by have := hb.size; omega) (fun e => by injection e; omega)).trans ((hb.block b (by omega)).trans ((KA _).out b hD hl))
                have q2 : (wr.alloc (.cells #[.int .i64 ok, .string s, .int .i64 ov, .slice la ol.length lc, .bool oh, .bool on] 49)).cell? ⟨wr.heap.size, 2, none⟩ = some (.int .i64 ov) := new_cells wr _ 49 2
                have k5 : (wr.alloc (.cells #[.int .i64 ok, .string s, .int .i64 ov, .slice la ol.length lc, .bool oh, .bool on] 49)).cell? ⟨w.heap.size + 1 + 1, 5, none⟩ = some (.map (some (w.heap.size + 1))) := Lib.cell?_alloc_some _ (lk_map HL.out)
                go_wp2_with (go_at_call 58; refine (WRT.out _).mono ?_; rintro e w4 ⟨rfl, rfl⟩)
                go_region_held3 (fun w' => w'.cell? ⟨wr.heap.size, 2, none⟩ = some (.int .i64 ov) ∧ w'.cell? ⟨w.heap.size + 1 + 1, 5, none⟩ = some (.map (some (w.heap.size + 1)))) (go_keep) (first
                  | (go_at_call 68; refine (FJ.out _ (by repeat (first | exact BW1.out | apply Below.drew))).mono ?_; rintro e w5 ⟨rfl, b5⟩; have C5 : Hid (Below (wr.alloc (.cells #[.int .i64 ok, .string s, .int .i64 ov, .slice la ol.length lc, .bool oh, .bool on] 49)).heap.size (wr.alloc (.cells #[.int .i64 ok, .string s, .int .i64 ov, .slice la ol.length lc, .bool oh, .bool on] 49)) w5) := Below.trans (by repeat (first | exact Below.refl _ _ | apply Below.drew)) b5; have r2 : w5.cell? ⟨wr.heap.size, 2, none⟩ = some (.int .i64 ov) := (C5.out.cell (p := ⟨wr.heap.size, 2, none⟩) (by rw [alloc_size]; exact Nat.lt_succ_self _)).trans q2; have r5 : w5.cell? ⟨w.heap.size + 1 + 1, 5, none⟩ = some (.map (some (w.heap.size + 1))) := (C5.out.cell (p := ⟨w.heap.size + 1 + 1, 5, none⟩) (by rw [alloc_size]; show w.heap.size + 1 + 1 < _; omega)).trans k5; obtain ⟨w7, r7, l7, k7, g7⟩ := PUT.out w5 C5.out; have L7 := hid l7; have K7 := hid k7; have s2 : w7.cell? ⟨wr.heap.size, 2, none⟩ = some (.int .i64 ov) := (World.cell?_of_block (a := ⟨wr.heap.size, 2, none⟩) (g7.block _ (World.block_lt_of_cell? _ _ r2) (fun e => by have e2 : wr.heap.size = w.heap.size + 1 := (by first | (injection e) | (injection e with e; exact e.symm)); omega))).trans r2; have s5 : w7.cell? ⟨w.heap.size + 1 + 1, 5, none⟩ = some (.map (some (w.heap.size + 1))) := (World.cell?_of_block (a := ⟨w.heap.size + 1 + 1, 5, none⟩) (g7.block _ (World.block_lt_of_cell? _ _ r5) (fun e => by have e2 : w.heap.size + 1 + 1 = w.heap.size + 1 := (by first | (injection e) | (injection e with e; exact e.symm)); omega))).trans r5; clear b5 l7 k7 g7))
                all_goals (try go_wp2_with fail)
                go_roundg (T.length - (j + 1))
                case measure => omega
                case rel => exact ⟨j + 1, by omega, by omega, by go_num, (by rw [HTJ.out]; exact L7.out), K7.out⟩
            | false =>
              rw [hw] at WRT
              by_cases h2 : ok = 2
              · subst h2
                cases oh with
                | false =>
                  have hh : Hid (∀ o, LkE l s w D' (M ++ [(k, j, (2, s, ov, ol, false, on))]) (wr.alloc o)) := fun o => (HL.out.later (below_box wr o)).skip _ (by show isRd s (l.getD k default).state (2, s, ov, ol, false, on) = false; rw [HST.out]; simp [isRd, MOp.has]) (fun v => by simp [hitW, MOp.kind, hw])
                  go_wp2_with (go_at_call 58; refine (WRT.out _).mono ?_; rintro e w4 ⟨rfl, rfl⟩)
                  go_roundg (T.length - (j + 1))
                  case measure => omega
                  case rel => exact ⟨j + 1, by omega, by omega, by go_num, (by rw [HTJ.out]; exact hh.out _), (KA _).out⟩
                | true =>
                  by_cases h1 : st = 1
                  · subst h1
                    have NT : Hid (∀ o, Calls Try.prog 69 #[.pointer (some ⟨w.heap.size + 1 + 1, 0, none⟩), .agg #[.int .i64 (k : Int), .int .i64 (j : Int), .slice la ol.length lc]] (wr.alloc o) fun e w' => e = .returned (.tuple #[]) ∧ LkE l s w D' (M ++ [(k, j, (2, s, ov, ol, true, on))]) w' ∧ KeepsIn D' W3 w') := fun o => by
                      refine ((HL.out.later (below_box wr o)).note (k, j, (2, s, ov, ol, true, on)) hMl (by show isRd s (l.getD k default).state (2, s, ov, ol, true, on) = true; rw [HST.out]; simp [isRd, MOp.key, MOp.kind, MOp.has]) la lc (HIN.out.keep (fun b hD hl => by rw [alloc_at, if_neg (by omega)]) (fun _ _ h => h)) HLW.out).mono ?_
                      rintro e w' ⟨rfl, hl7, hk7⟩
                      refine ⟨rfl, hl7, fun b hD hl => ?_⟩
                      exact (hk7 b hD (by rw [alloc_size]; have := this_lt HL.out hD; omega)).trans ((KA _).out b hD hl)
                    go_wp2_with (first | (go_at_call 58; refine (WRT.out _).mono ?_; rintro e w4 ⟨rfl, rfl⟩) | (go_at_call 69; refine (NT.out _).mono ?_; rintro e w6 ⟨rfl, l6, k6⟩; have L6 := hid l6; have K6 := hid k6; clear l6 k6))
                    go_roundg (T.length - (j + 1))
                    case measure => omega
                    case rel => exact ⟨j + 1, by omega, by omega, by go_num, (by rw [HTJ.out]; exact L6.out), K6.out⟩
                  · have h1b : (st == (1 : Int)) = false := by simpa using h1
                    have hh : Hid (∀ o, LkE l s w D' (M ++ [(k, j, (2, s, ov, ol, true, on))]) (wr.alloc o)) := fun o => (HL.out.later (below_box wr o)).skip _ (by show isRd s (l.getD k default).state (2, s, ov, ol, true, on) = false; rw [HST.out]; simp [isRd, h1]) (fun v => by simp [hitW, MOp.kind, hw])
                    go_wp2_with (go_at_call 58; refine (WRT.out _).mono ?_; rintro e w4 ⟨rfl, rfl⟩)
                    go_roundg (T.length - (j + 1))
                    case measure => omega
                    case rel => exact ⟨j + 1, by omega, by omega, by go_num, (by rw [HTJ.out]; exact hh.out _), (KA _).out⟩
              · have h2b : (ok == (2 : Int)) = false := by simpa using h2
                have hh : Hid (∀ o, LkE l s w D' (M ++ [(k, j, (ok, s, ov, ol, oh, on))]) (wr.alloc o)) := fun o => (HL.out.later (below_box wr o)).skip _ (by show isRd s (l.getD k default).state (ok, s, ov, ol, oh, on) = false; rw [HST.out]; simp [isRd, MOp.kind, h2]) (fun v => by simp [hitW, MOp.kind, hw])
                go_wp2_with (go_at_call 58; refine (WRT.out _).mono ?_; rintro e w4 ⟨rfl, rfl⟩)
                go_roundg (T.length - (j + 1))
                case measure => omega
                case rel => exact ⟨j + 1, by omega, by omega, by go_num, (by rw [HTJ.out]; exact hh.out _), (KA _).out⟩
          · have hkb : (os.toList == s.toList) = false := by
              cases hc : (os.toList == s.toList) with
              | false => rfl
              | true => exact absurd (cond_ws ▸ hc) hks
            have hh : Hid (∀ o, LkE l s w D' (M ++ [(k, j, (ok, os, ov, ol, oh, on))]) (wr.alloc o)) := fun o => (HL.out.later (below_box wr o)).skip _ (by simp [isRd, MOp.key, hks]) (fun v => by simp [hitW, MOp.key, hks])
            go_wp2_with fail
            go_roundg (T.length - (j + 1))
            case measure => omega
            case rel => exact ⟨j + 1, by omega, by omega, by go_num, (by rw [HTJ.out]; exact hh.out _), (KA _).out⟩
        · have hje : j = T.length := by omega
          have hjli : ¬ (j : Int) < T.length := by omega
          have HN2 : Hid (notes l (k + 1) = notes l k ++ (notesT k T).take j) := by
            show _ = _
            rw [HNT.out, List.take_of_length_le (by rw [notesT_len]; omega)]
          have SE := hid SJ.out.1
          go_wp2_with fail
          go_roundg (l.length - (k + 1))
          case measure => omega
          case rel => exact ⟨k + 1, by omega, by omega, by go_num, ⟨D', by rw [HN2.out]; exact SE.out⟩⟩
    · have hke : k = l.length := by omega
      have hlti : ¬ (k : Int) < l.length := by omega
      subst hke
      obtain ⟨D, R, t2, ta, tc, n, rv, hL⟩ := SR.out
      obtain ⟨ra, rc, hrv⟩ := own_slice hL.lg.own
      subst hrv
      have c0 := Lib.cell_of_heap hL.lg.box 0
      have c1 := Lib.cell_of_heap hL.lg.box 1
      have c2 := Lib.cell_of_heap hL.lg.box 2
      have c3 := Lib.cell_of_heap hL.lg.box 3
      have c4 := Lib.cell_of_heap hL.lg.box 4
      have c5 := Lib.cell_of_heap hL.lg.box 5
      have y0 := Lib.cell_of_heap hL.zb 0
      have y1 := Lib.cell_of_heap hL.zb 1
      have y2 := Lib.cell_of_heap hL.zb 2
      have y3 := Lib.cell_of_heap hL.zb 3
      have y4 := Lib.cell_of_heap hL.zb 4
      have y5 := Lib.cell_of_heap hL.zb 5
      have f0 := Lib.frozen_of_heap hL.zb 0
      have f1 := Lib.frozen_of_heap hL.zb 1
      have f2 := Lib.frozen_of_heap hL.zb 2
      have f3 := Lib.frozen_of_heap hL.zb 3
      have f4 := Lib.frozen_of_heap hL.zb 4
      have f5 := Lib.frozen_of_heap hL.zb 5
      simp only [List.getElem?_toArray, List.getElem?_cons_zero, List.getElem?_cons_succ] at c0 c1 c2 c3 c4 c5 y0 y1 y2 y3 y4 y5
      have HNL : Hid ((notes l l.length).length ≤ 100000) := by
        have := notes_len l HTEN.out l.length
        show _ ≤ _
        omega
      have HL := hid hL
      obtain ⟨K, hK⟩ : ∃ K, knwN l s (notes l l.length) = K := ⟨_, rfl⟩
      rw [hK] at c2 c4
      have HK := hid hK
      clear hL SR TX FI HTEN HOK HWL S0 hK
      go_wp2_with fail
      have hz : ∀ b, b ≠ w.heap.size → ∀ (i0 i1 i2 i3 i4 i5 : Value), ((((((wr.setCell ⟨w.heap.size, 0, none⟩ i0).setCell ⟨w.heap.size, 1, none⟩ i1).setCell ⟨w.heap.size, 2, none⟩ i2).setCell ⟨w.heap.size, 3, none⟩ i3).setCell ⟨w.heap.size, 4, none⟩ i4).setCell ⟨w.heap.size, 5, none⟩ i5).heap[b]? = wr.heap[b]? := fun b hb i0 i1 i2 i3 i4 i5 => by
        rw [set_ne hb, set_ne hb, set_ne hb, set_ne hb, set_ne hb, set_ne hb]
      refine bodyPost_ret (v := .tuple #[lkV s (.slice ra R.length rc) K.ti t2 ta K.ts.length tc (w.heap.size + 1), .bool true]) (by simp [results, Try.results41, go_sem, y0, y1, y2, y3, y4, y5]) rfl ?_
      have keep : ∀ i0 i1 i2 i3 i4 i5, KeepsIn D wr ((((((wr.setCell ⟨w.heap.size, 0, none⟩ i0).setCell ⟨w.heap.size, 1, none⟩ i1).setCell ⟨w.heap.size, 2, none⟩ i2).setCell ⟨w.heap.size, 3, none⟩ i3).setCell ⟨w.heap.size, 4, none⟩ i4).setCell ⟨w.heap.size, 5, none⟩ i5) := fun i0 i1 i2 i3 i4 i5 b hD _ => hz b (by have := (HL.out.lo b hD).1; omega) _ _ _ _ _ _
      refine ⟨R, t2, ta, tc, n, .slice ra R.length rc, w.heap.size + 1, by rw [HK.out], own_base (own_same HL.out.lg.own (fun g hg => hz g (by have := (own_block HL.out.lg.own hg).1; omega) _ _ _ _ _ _)) (by omega), HL.out.rd.keep (keep _ _ _ _ _ _) (fun b _ hD => by have := (HL.out.lo b hD).1; show w.heap.size ≤ b; omega), HL.out.tr.keep (keep _ _ _ _ _ _) (fun b _ hD => by have := (HL.out.lo b hD).1; show w.heap.size ≤ b; omega), HL.out.sc.same (hz _ (by omega) _ _ _ _ _ _), by omega, ?_⟩
      exact (((((HL.out.bl.setCell (Nat.le_refl _) _).setCell (Nat.le_refl _) _).setCell (Nat.le_refl _) _).setCell (Nat.le_refl _) _).setCell (Nat.le_refl _) _).setCell (Nat.le_refl _) _
end Go.Proofs.Ytnfbcmnlloipiaa
namespace Go.Proofs.Ytnfbcmnlloipiaa
set_option linter.unusedVariables false
set_option linter.unusedSimpArgs false
open Go.RowKit Go.Lib Go.Maps

theorem append_zero {P : Program} {w : World} (base base' : Nat) (t ty e : TypeId) (i : TypeInfo) (size : Nat) (ht : P.underlying t = some (.slice e)) (hi : P.info? e = some i) (v u : Value) (n : Nat) (xs ys : List Value) (hown : w.ownsRow base e size v n xs) (hu : w.ownsRow base' e size u 0 ys) : (Builtin.append_ #[t, t] ty #[v, u]).run P w = .ok v w := by
  obtain ⟨a, c, rfl⟩ := own_slice hu
  rcases hown.2 with ⟨rfl, rfl⟩ | ⟨g, cap, cur, rfl, _, _, hnc, _⟩
  · cases a <;> simp [Builtin.append_, run_underlying ht, sizeOf, typeInfo, hi, Builtin.lenOf, Builtin.firstCells, loadCells, loadCellsFrom]
  · cases a <;> simp [Builtin.append_, run_underlying ht, sizeOf, typeInfo, hi, Builtin.lenOf, Builtin.firstCells, hnc, storeCells, loadCells, loadCellsFrom]
theorem ansC_append (a b : List MAn) : ansC (a ++ b) = ansC a ++ ansC b := by simp [ansC]
theorem ansC_len (l : List MAn) : (ansC l).length = l.length * 9 := by
  induction l with
  | nil => rfl
  | cons a l ih =>
    show (anC a ++ ansC l).length = _
    rw [List.length_append, ih, List.length_cons]
    show 9 + _ = _
    omega
theorem ansC_one (l : List MAn) : ∀ u ∈ ansC l, u.oneCell' = true := by
  intro u hu
  obtain ⟨a, _, ha⟩ := List.mem_flatMap.1 hu
  simp only [anC, List.mem_cons, List.not_mem_nil, or_false] at ha
  rcases ha with rfl | rfl | rfl | rfl | rfl | rfl | rfl | rfl | rfl <;> rfl
/-- All that is wrong with a list. -/
def anoM (K : Knw) (s : ByteArray) (RX : List MRx) : List MAn := uptoA K s RX 5 0 ++ (if harmB (uptoA K s RX 5 0) = true then disK K.f s K.ts K.ts.length else [])
theorem anoM_len (K : Knw) (s : ByteArray) (RX : List MRx) : (anoM K s RX).length ≤ 5 * RX.length + K.ts.length := by
  unfold anoM
  have h1 := uptoA_len K s RX 5 0 (by omega)
  have h2 := disK_len K.f s K.ts K.ts.length
  rw [List.length_append]
  split
  · omega
  · rw [List.length_nil]
    omega
theorem own_some {B : Nat} {w : World} {e : TypeId} {z n : Nat} {v : Value} {xs : List Value} (h : w.ownsRow B e z v n xs) (hn : ¬ n = 0) : ∃ g c, v = .slice (some ⟨g, 0, none⟩) n c := by
  rcases h.2 with ⟨_, h0⟩ | ⟨g, cap, cur, hv, _⟩
  · exact absurd h0 hn
  · exact ⟨g, cap, hv⟩
theorem ans_news {B : Nat} {w : World} {g c : Nat} {D : List MAn} (h : w.ownsRow B 85 9 (.slice (some ⟨g, 0, none⟩) D.length c) D.length (ansC D)) : ∀ j u, (ansC D)[j]? = some u → w.cell? ((⟨g, 0, none⟩ : Addr).add j) = some u := fun j u hu => by
  have hj : j < D.length * 9 := by rw [← ansC_len]; exact (List.getElem?_eq_some_iff.1 hu).1
  rw [Addr.add_lit, Nat.zero_add, h.cellAt j hj]
  exact hu
end Go.Proofs.Ytnfbcmnlloipiaa
