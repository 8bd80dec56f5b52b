/-
  The document's Right.
-/
import Derived.Test.YtgfnjebnfhgimaaSw
import Derived.Deep.CutBlock
import Derived.Test.YtgfnjebnfhgimaaIv
namespace Go.Proofs.Ytgfnjebnfhgimaa
set_option linter.unusedVariables false
set_option linter.unusedSimpArgs false
open Go.RowKit Go.Lib Go.Maps
open Tx (MTxn TxnsIn TxnRow)

theorem Try.mixedOrders : Try.prog.follows .mixedOrders = true := by kernel_rfl
/-- An order takes in what is ok and nothing that failed, and nothing stands behind what it ended ahead of. -/
def rightR (l : List MTxn) (ord : List Int) : Prop := (∀ k, k < ord.length → ((txO l (ord.getD k 0)).state = 1 ∨ (txO l (ord.getD k 0)).state = 3) ∧ ∀ i, i < k → aheadM (txO l (ord.getD k 0)) (txO l (ord.getD i 0)) = false) ∧ ∀ j, j < l.length → (l.getD j default).state = 1 → ∃ k, k < ord.length ∧ ord.getD k 0 = (j : Int)
def RRPost (l : List MTxn) (ord : List Int) (w : World) (e : Ending) (w' : World) : Prop := ∃ b : Bool, e = .returned (.bool b) ∧ (b = true ↔ okR l ord ∧ rightR l ord) ∧ Below w.heap.size w w'
theorem row_later {w w' : World} {g t n : Nat} {f : Nat → Value} (h : w.rowIs g t n f) (hb : Below w.heap.size w w') : w'.rowIs g t n f := by
  obtain ⟨c, h1, h2, h3⟩ := h
  exact ⟨c, (hb.block g (blt h1)).trans h1, h2, h3⟩
theorem txc_row {w : World} {ta : Option Addr} {l : List MTxn} (h : TxC w ta l) (j : Nat) (hj : j < l.length) : ∃ tb tf a n c, ta = some ⟨tb, tf, none⟩ ∧ tb < w.heap.size ∧ w.cell? ⟨tb, tf + j * 5, none⟩ = some (.int .i64 (l.getD j default).proc) ∧ w.cell? ⟨tb, tf + j * 5 + 1, none⟩ = some (.int .i64 (l.getD j default).state) ∧ w.cell? ⟨tb, tf + j * 5 + 2, none⟩ = some (.int .i64 (l.getD j default).since) ∧ w.cell? ⟨tb, tf + j * 5 + 3, none⟩ = some (.int .i64 (l.getD j default).till) ∧ w.cell? ⟨tb, tf + j * 5 + 4, none⟩ = some (.slice a n c) := by
  obtain ⟨tb, tf, ov, ha, hrow, hops⟩ := h j hj
  obtain ⟨oa2, oc2, hov, _⟩ := hops
  subst hov
  exact ⟨tb, tf, _, _, _, ha, World.block_lt_of_cell? _ _ (hrow 0 _ rfl), hrow 0 _ rfl, hrow 1 _ rfl, hrow 2 _ rfl, hrow 3 _ rfl, hrow 4 _ rfl⟩
theorem TxC.later {w w' : World} {ta : Option Addr} {l : List MTxn} (h : TxC w ta l) (hb : Below w.heap.size w w') : TxC w' ta l := fun j hj => by
  obtain ⟨tb, tf, ov, ha, hrow, hops⟩ := h j hj
  have hlt := World.block_lt_of_cell? _ _ (hrow 0 _ rfl)
  exact ⟨tb, tf, ov, ha, fun i u hi => (hb.cell (p := ⟨tb, tf + j * 5 + i, none⟩) hlt).trans (hrow i u hi), hops.keep (keeps_below hb) (fun _ _ _ => trivial)⟩
set_option maxHeartbeats 16000000 in
set_option maxRecDepth 100000 in
theorem rightD_is (w : World) (tv ov : Value) (l : List MTxn) (ord : List Int) (ht : TxnsIn Any w tv l) (ho : IntsIn Any w ov ord) (hl : l.length ≤ 262144) (hlo : ∀ t ∈ l, t.ops.length ≤ 1048576) :
    Calls Try.prog 5 #[tv, ov] w fun e w' => RRPost l ord w e w' := by
  have RP := hid (rreplay_is w tv ov l ord ht ho hl hlo)
  obtain ⟨ta, tc, rfl, ⟨hby, hcap⟩, hT⟩ := txns_cells ht
  obtain ⟨oa, oc, rfl, ⟨ob1, ob2⟩, hO⟩ := ho.cells
  have HT := hid hT
  have HO := hid hO
  have hlen : (l.length : Int) ≤ 262144 := by omega
  clear hT hO ht ho hlo
  have hmk : ∀ W : World, (Instr.makeSlice 25 (.int .i64 (l.length : Int)) (.int .i64 (l.length : Int))).run Try.prog W = .ok (.slice (some ⟨W.heap.size, 0, none⟩) l.length l.length) (W.alloc (.cells (madeCells #[.bool false] l.length) 4)) := fun W => run_make_row' 25 4 (.bool false) 1 Try.underlying25 Try.infoBool rfl .i64 .i64 l.length (by omega) (by omega) W
  go_enter Try.func5, Try.ntmps5
  go_wp2_with fail
  go_at_call 9
  refine RP.out.mono ?_
  rintro e w1 ⟨b1, rfl, hb1, bl1⟩
  have HB1 := hid hb1
  have B1 := hid bl1
  clear hb1 bl1 RP
  cases b1 with
  | false =>
    go_wp2_with fail
    go_ret
    exact ⟨false, rfl, ⟨fun c => absurd c (by decide), fun c => absurd (HB1.out.2 c.1) (by decide)⟩, B1.out⟩
  | true =>
    have OK := hid (HB1.out.1 rfl)
    have hol : ord.length ≤ l.length := good_le l ord ord.length OK.out
    have holi : (ord.length : Int) ≤ 262144 := by omega
    clear HB1
    have R1 : Hid ((w1.alloc (.cells (madeCells #[.bool false] l.length) 4)).rowIs w1.heap.size 4 l.length (fun j => .bool (doneB ord 0 j))) := World.rowIs_made w1 _ _ _
    have B2 : Hid (Below w.heap.size w (w1.alloc (.cells (madeCells #[.bool false] l.length) 4))) := B1.out.trans ((below_box w1 _).mono B1.out.size)
    have HG : Hid (w.heap.size ≤ w1.heap.size) := B1.out.size
    go_wp2_with fail
    clear hmk
    generalize w1.alloc (.cells (madeCells #[.bool false] l.length) 4) = W0 at *
    generalize w1.heap.size = gb at *
    go_loopg [6, 7, 9, 21] ord.length (fun g _ _ _ i wr => ∃ k : Nat, k ≤ ord.length ∧ ord.length - k ≤ g ∧ i = .int .i64 k ∧ Aside (Below w.heap.size w wr) ∧ Aside (wr.rowIs gb 4 l.length (fun j => .bool (doneB ord k j))) ∧ Aside (∀ q, q < k → ((txO l (ord.getD q 0)).state = 1 ∨ (txO l (ord.getD q 0)).state = 3) ∧ ∀ i, i < q → aheadM (txO l (ord.getD q 0)) (txO l (ord.getD i 0)) = false))
    case atStart => exact ⟨0, Nat.zero_le _, by omega, rfl, B2.out, R1.out, fun q hq => absurd hq (Nat.not_lt_zero _)⟩
    case round =>
      clear B2 R1 B1
      obtain ⟨k, hk, hgk, rfl, BR, RR, AL⟩ := hrel
      by_cases hlt : k < ord.length
      · have hlti : (k : Int) < ord.length := by omega
        obtain ⟨ob, oo, rfl, k0⟩ := HO.out k hlt
        have hobl := World.block_lt_of_cell? _ _ k0
        have e0 := (BR.out.cell (p := ⟨ob, oo + k, none⟩) hobl).trans k0
        obtain ⟨p1, p2, _, _⟩ := OK.out k hlt
        obtain ⟨j, hj⟩ : ∃ j : Nat, ord.getD k 0 = j := ⟨(ord.getD k 0).toNat, by omega⟩
        have hj' : ord.getD k default = (j : Int) := hj
        rw [hj'] at e0
        have hjl : j < l.length := by omega
        have hjli : (j : Int) < l.length := by omega
        have HTX : Hid (txO l (ord.getD k 0) = l.getD j default) := by show txO l _ = _; unfold txO; rw [hj]; rfl
        have HJ := hid hj
        obtain ⟨cs, hcs, hcz, hci⟩ := RR.out
        have dj : wr.cell? ⟨gb, j, none⟩ = some (.bool (doneB ord k j)) := (Lib.cell_of_heap hcs j).trans (hci j hjl)
        have fj : wr.frozen? ⟨gb, j, none⟩ = false := Lib.frozen_of_heap hcs j
        obtain ⟨W, hW⟩ : ∃ W, wr.setCell ⟨gb, j, none⟩ (.bool true) = W := ⟨_, rfl⟩
        have RW : Hid (W.rowIs gb 4 l.length (fun j => .bool (doneB ord (k + 1) j))) := by rw [← hW]; exact row_done RR.out hj hjl
        have BW : Hid (Below w.heap.size w W) := by rw [← hW]; exact BR.out.setCell HG.out _
        obtain ⟨tb, tf, a1, n1, c1, hta, htb, x0, x1, x2, x3, x4⟩ := txc_row (HT.out.later BW.out) j hjl
        subst hta
        have HW := hid hW
        have hkc : (k : Int) ≤ oc := by omega
        have hk0 : (0 : Int) ≤ k := by omega
        have hoc0 : ¬ oc = 0 := by omega
        have TXW := hid (HT.out.later BW.out)
        clear hcs hcz hci k0 hj' p1 p2 hj RR hW
        generalize hTT : l.getD j default = T at *
        have HTT := hid hTT
        clear hTT x0 x2 x3 x4
        by_cases hs : T.state = 1
        · have ST : Hid ((txO l (ord.getD k 0)).state = 1 ∨ (txO l (ord.getD k 0)).state = 3) := by show _ ∨ _; rw [HTX.out]; exact .inl hs
          have hs' : T.2.1 = 1 := hs
          clear hs
          go_upto_region 8 with fail
          rw [show wr.setCell ⟨gb, j, none⟩ (.bool true) = W from HW.out]
          go_wp2_with fail
          clear x1 dj fj
          go_loopg [9, 47] k (fun g2 _ i wr2 => ∃ q : Nat, q ≤ k ∧ k - q ≤ g2 ∧ i = .int .i64 q ∧ Aside (Below W.heap.size W wr2) ∧ Aside (∀ i, i < q → aheadM (txO l (ord.getD k 0)) (txO l (ord.getD i 0)) = false))
          case atStart => exact ⟨0, Nat.zero_le _, by omega, rfl, Below.refl _ _, fun i hi => absurd hi (Nat.not_lt_zero _)⟩
          case round =>
            obtain ⟨q, hq, hg2, rfl, BQ, AQ⟩ := hrel
            have BB : Hid (Below w.heap.size w wr) := BW.out.trans (BQ.out.mono BW.out.size)
            by_cases hqk : q < k
            · have hqki : (q : Int) < k := by omega
              obtain ⟨ob2, oo2, he2, kq⟩ := HO.out q (by omega)
              have e1 : ob = ob2 := by injection he2 with e; injection e
              have e2 : oo = oo2 := by injection he2 with e; injection e
              subst e1 e2
              have dq := (BB.out.cell (p := ⟨ob, oo + q, none⟩) hobl).trans kq
              obtain ⟨p1, p2, _, _⟩ := OK.out q (by omega)
              obtain ⟨i2, hi2⟩ : ∃ i2 : Nat, ord.getD q 0 = i2 := ⟨(ord.getD q 0).toNat, by omega⟩
              have hi2' : ord.getD q default = (i2 : Int) := hi2
              rw [hi2'] at dq
              have hil : i2 < l.length := by omega
              have hili : (i2 : Int) < l.length := by omega
              have HTX2 : Hid (txO l (ord.getD q 0) = l.getD i2 default) := by show txO l _ = _; unfold txO; rw [hi2]; rfl
              obtain ⟨tb1, tf1, a1, n1, c1, hta1, htb1, y0, y1, y2, y3, y4⟩ := txc_row (TXW.out.later BQ.out) j hjl
              obtain ⟨tb2, tf2, a2, n2, c2, hta2, htb2, z0, z1, z2, z3, z4⟩ := txc_row (TXW.out.later BQ.out) i2 hil
              have q1 : tb = tb1 := by injection hta1 with e; injection e
              have q2 : tf = tf1 := by injection hta1 with e; injection e
              have q3 : tb = tb2 := by injection hta2 with e; injection e
              have q4 : tf = tf2 := by injection hta2 with e; injection e
              subst q1 q2 q3 q4
              rw [HTT.out] at y0 y1 y2 y3
              have AM : Hid (aheadM (txO l (ord.getD k 0)) (txO l (ord.getD q 0)) = aheadM T (l.getD i2 default)) := by show _ = _; rw [HTX.out, HTX2.out]
              clear hta1 hta2 kq he2 p1 p2 hi2 hi2'
              generalize l.getD i2 default = T2 at *
              have AH := hid (fun V => ahead_is T.1 T.2.1 T.2.2.1 T.2.2.2.1 T2.1 T2.2.1 T2.2.2.1 T2.2.2.2.1 a1 a2 n1 c1 n2 c2 V (aheadM T T2) rfl)
              cases hA : aheadM T T2 with
              | true =>
                rw [hA] at AH AM
                have HN : Hid (¬ rightR l ord) := fun h => by
                  have h2 := (h.1 k hlt).2 q hqk
                  rw [AM.out] at h2
                  cases h2
                clear hA AM
                go_upto_region 13 with fail
                refine wp_region_ask Try.mixedOrders (by kernel_rfl) (fun val => { tmps := #[_, _, _, _, _, _, _, _, _, _, _, _, _, _, _, _, _, _, _, _, _, _, _, _, _, _, _, _, _, _, _, _, _, _, _, _, _, _, _, _, _, _, _, _, _, _, _, _, _, _, _, val 0, val 1, val 2, val 3, val 4, val 5, val 6, val 7, val 8, _, _, _, _, _, _, _, _, _, _, _, _, _, _, _, _, _, _, _, _], defers := [] }) (fun i v _ => match i with | 0 => v = .slice (some ⟨tb, tf, none⟩) l.length tc | 1 => v = .int .i64 (j : Int) | 2 => v = .pointer (some ⟨tb, tf + j * 5, none⟩) | 3 => v = (.agg #[.int .i64 T.1, .int .i64 T.2.1, .int .i64 T.2.2.1, .int .i64 T.2.2.2.1, .slice a1 n1 c1]) | 4 => v = .slice (some ⟨tb, tf, none⟩) l.length tc | 5 => v = .int .i64 (i2 : Int) | 6 => v = .pointer (some ⟨tb, tf + i2 * 5, none⟩) | 7 => v = (.agg #[.int .i64 T2.1, .int .i64 T2.2.1, .int .i64 T2.2.2.1, .int .i64 T2.2.2.2.1, .slice a2 n2 c2]) | 8 => v = .bool true | _ => True) (fun i => match i with | 0 => u51 | 1 => u52 | 2 => u53 | 3 => u54 | 4 => u55 | 5 => u56 | 6 => u57 | 7 => u58 | 8 => u59 | _ => undef) rfl (fun i v w w2 hv _ => hv) _ rfl ⟨?_, ?_, ?_, ?_, ?_, ?_, ?_, ?_, ?_, trivial⟩ ?_
                · exact ask_plain rfl (fun _ _ => rfl) (fun val V hb hd => does_value rfl rfl)
                · exact ask_plain rfl (fun _ _ => rfl) (fun val V hb hd => does_value rfl rfl)
                · refine ask_plain rfl (fun _ _ => rfl) (fun val V hb hd => ?_)
                  have h0 : val 0 = .slice (some ⟨tb, tf, none⟩) l.length tc := depsAll_get hd 0 rfl
                  have h1 : val 1 = .int .i64 (j : Int) := depsAll_get hd 1 rfl
                  refine does_value (v := .pointer (some ⟨tb, tf + j * 5, none⟩)) ?_ rfl
                  simp [execOp, Act.eval, h0, h1, go_sem, hjli]
                · refine ask_plain rfl (fun _ _ => rfl) (fun val V hb hd => ?_)
                  have h0 : val 2 = .pointer (some ⟨tb, tf + j * 5, none⟩) := depsAll_get hd 2 rfl
                  have d0 := (hb.cell (p := ⟨tb, tf + j * 5, none⟩) htb1).trans y0
                  have d1 := (hb.cell (p := ⟨tb, tf + j * 5 + 1, none⟩) htb1).trans y1
                  have d2 := (hb.cell (p := ⟨tb, tf + j * 5 + 2, none⟩) htb1).trans y2
                  have d3 := (hb.cell (p := ⟨tb, tf + j * 5 + 3, none⟩) htb1).trans y3
                  have d4 := (hb.cell (p := ⟨tb, tf + j * 5 + 4, none⟩) htb1).trans y4
                  refine does_value (v := (.agg #[.int .i64 T.1, .int .i64 T.2.1, .int .i64 T.2.2.1, .int .i64 T.2.2.2.1, .slice a1 n1 c1])) ?_ rfl
                  simp [execOp, Act.eval, h0, go_sem, d0, d1, d2, d3, d4]
                · exact ask_plain rfl (fun _ _ => rfl) (fun val V hb hd => does_value rfl rfl)
                · exact ask_plain rfl (fun _ _ => rfl) (fun val V hb hd => does_value rfl rfl)
                · refine ask_plain rfl (fun _ _ => rfl) (fun val V hb hd => ?_)
                  have h0 : val 4 = .slice (some ⟨tb, tf, none⟩) l.length tc := depsAll_get hd 4 rfl
                  have h1 : val 5 = .int .i64 (i2 : Int) := depsAll_get hd 5 rfl
                  refine does_value (v := .pointer (some ⟨tb, tf + i2 * 5, none⟩)) ?_ rfl
                  simp [execOp, Act.eval, h0, h1, go_sem, hili]
                · refine ask_plain rfl (fun _ _ => rfl) (fun val V hb hd => ?_)
                  have h0 : val 6 = .pointer (some ⟨tb, tf + i2 * 5, none⟩) := depsAll_get hd 6 rfl
                  have d0 := (hb.cell (p := ⟨tb, tf + i2 * 5, none⟩) htb1).trans z0
                  have d1 := (hb.cell (p := ⟨tb, tf + i2 * 5 + 1, none⟩) htb1).trans z1
                  have d2 := (hb.cell (p := ⟨tb, tf + i2 * 5 + 2, none⟩) htb1).trans z2
                  have d3 := (hb.cell (p := ⟨tb, tf + i2 * 5 + 3, none⟩) htb1).trans z3
                  have d4 := (hb.cell (p := ⟨tb, tf + i2 * 5 + 4, none⟩) htb1).trans z4
                  refine does_value (v := (.agg #[.int .i64 T2.1, .int .i64 T2.2.1, .int .i64 T2.2.2.1, .int .i64 T2.2.2.2.1, .slice a2 n2 c2])) ?_ rfl
                  simp [execOp, Act.eval, h0, go_sem, d0, d1, d2, d3, d4]
                · refine ask_plain rfl (fun _ _ => rfl) (fun val V hb hd => ?_)
                  have h3 : val 3 = (.agg #[.int .i64 T.1, .int .i64 T.2.1, .int .i64 T.2.2.1, .int .i64 T.2.2.2.1, .slice a1 n1 c1]) := depsAll_get hd 3 rfl
                  have h7 : val 7 = (.agg #[.int .i64 T2.1, .int .i64 T2.2.1, .int .i64 T2.2.2.1, .int .i64 T2.2.2.2.1, .slice a2 n2 c2]) := depsAll_get hd 7 rfl
                  refine does_call (f := 10) (args := #[(.agg #[.int .i64 T.1, .int .i64 T.2.1, .int .i64 T.2.2.1, .int .i64 T.2.2.2.1, .slice a1 n1 c1]), (.agg #[.int .i64 T2.1, .int .i64 T2.2.1, .int .i64 T2.2.2.1, .int .i64 T2.2.2.2.1, .slice a2 n2 c2])]) ?_ (AH.out V) (fun e w2 h => ⟨_, h.1, rfl, h.2⟩)
                  simp [execOp, Act.eval, h3, h7, go_sem]
                intro val V hbV hR
                have h8 : val 8 = .bool true := hR 8 (by decide)
                have BV := hid hbV
                clear hR hbV
                go_wp2_with fail
                rw [h8]
                go_wp2_with fail
                go_ret
                exact ⟨false, rfl, ⟨fun c => absurd c (by decide), fun c => absurd c.2 HN.out⟩, BB.out.trans (BV.out.mono BB.out.size)⟩
              | false =>
                rw [hA] at AH AM
                have A2 : Hid (∀ i, i < q + 1 → aheadM (txO l (ord.getD k 0)) (txO l (ord.getD i 0)) = false) := fun i hi => by
                  by_cases e : i = q
                  · rw [e]; exact AM.out
                  · exact AQ.out i (by omega)
                clear hA AM
                go_upto_region 13 with fail
                refine wp_region_ask Try.mixedOrders (by kernel_rfl) (fun val => { tmps := #[_, _, _, _, _, _, _, _, _, _, _, _, _, _, _, _, _, _, _, _, _, _, _, _, _, _, _, _, _, _, _, _, _, _, _, _, _, _, _, _, _, _, _, _, _, _, _, _, _, _, _, val 0, val 1, val 2, val 3, val 4, val 5, val 6, val 7, val 8, _, _, _, _, _, _, _, _, _, _, _, _, _, _, _, _, _, _, _, _], defers := [] }) (fun i v _ => match i with | 0 => v = .slice (some ⟨tb, tf, none⟩) l.length tc | 1 => v = .int .i64 (j : Int) | 2 => v = .pointer (some ⟨tb, tf + j * 5, none⟩) | 3 => v = (.agg #[.int .i64 T.1, .int .i64 T.2.1, .int .i64 T.2.2.1, .int .i64 T.2.2.2.1, .slice a1 n1 c1]) | 4 => v = .slice (some ⟨tb, tf, none⟩) l.length tc | 5 => v = .int .i64 (i2 : Int) | 6 => v = .pointer (some ⟨tb, tf + i2 * 5, none⟩) | 7 => v = (.agg #[.int .i64 T2.1, .int .i64 T2.2.1, .int .i64 T2.2.2.1, .int .i64 T2.2.2.2.1, .slice a2 n2 c2]) | 8 => v = .bool false | _ => True) (fun i => match i with | 0 => u51 | 1 => u52 | 2 => u53 | 3 => u54 | 4 => u55 | 5 => u56 | 6 => u57 | 7 => u58 | 8 => u59 | _ => undef) rfl (fun i v w w2 hv _ => hv) _ rfl ⟨?_, ?_, ?_, ?_, ?_, ?_, ?_, ?_, ?_, trivial⟩ ?_
                · exact ask_plain rfl (fun _ _ => rfl) (fun val V hb hd => does_value rfl rfl)
                · exact ask_plain rfl (fun _ _ => rfl) (fun val V hb hd => does_value rfl rfl)
                · refine ask_plain rfl (fun _ _ => rfl) (fun val V hb hd => ?_)
                  have h0 : val 0 = .slice (some ⟨tb, tf, none⟩) l.length tc := depsAll_get hd 0 rfl
                  have h1 : val 1 = .int .i64 (j : Int) := depsAll_get hd 1 rfl
                  refine does_value (v := .pointer (some ⟨tb, tf + j * 5, none⟩)) ?_ rfl
                  simp [execOp, Act.eval, h0, h1, go_sem, hjli]
                · refine ask_plain rfl (fun _ _ => rfl) (fun val V hb hd => ?_)
                  have h0 : val 2 = .pointer (some ⟨tb, tf + j * 5, none⟩) := depsAll_get hd 2 rfl
                  have d0 := (hb.cell (p := ⟨tb, tf + j * 5, none⟩) htb1).trans y0
                  have d1 := (hb.cell (p := ⟨tb, tf + j * 5 + 1, none⟩) htb1).trans y1
                  have d2 := (hb.cell (p := ⟨tb, tf + j * 5 + 2, none⟩) htb1).trans y2
                  have d3 := (hb.cell (p := ⟨tb, tf + j * 5 + 3, none⟩) htb1).trans y3
                  have d4 := (hb.cell (p := ⟨tb, tf + j * 5 + 4, none⟩) htb1).trans y4
                  refine does_value (v := (.agg #[.int .i64 T.1, .int .i64 T.2.1, .int .i64 T.2.2.1, .int .i64 T.2.2.2.1, .slice a1 n1 c1])) ?_ rfl
                  simp [execOp, Act.eval, h0, go_sem, d0, d1, d2, d3, d4]
                · exact ask_plain rfl (fun _ _ => rfl) (fun val V hb hd => does_value rfl rfl)
                · exact ask_plain rfl (fun _ _ => rfl) (fun val V hb hd => does_value rfl rfl)
                · refine ask_plain rfl (fun _ _ => rfl) (fun val V hb hd => ?_)
                  have h0 : val 4 = .slice (some ⟨tb, tf, none⟩) l.length tc := depsAll_get hd 4 rfl
                  have h1 : val 5 = .int .i64 (i2 : Int) := depsAll_get hd 5 rfl
                  refine does_value (v := .pointer (some ⟨tb, tf + i2 * 5, none⟩)) ?_ rfl
                  simp [execOp, Act.eval, h0, h1, go_sem, hili]
                · refine ask_plain rfl (fun _ _ => rfl) (fun val V hb hd => ?_)
                  have h0 : val 6 = .pointer (some ⟨tb, tf + i2 * 5, none⟩) := depsAll_get hd 6 rfl
                  have d0 := (hb.cell (p := ⟨tb, tf + i2 * 5, none⟩) htb1).trans z0
                  have d1 := (hb.cell (p := ⟨tb, tf + i2 * 5 + 1, none⟩) htb1).trans z1
                  have d2 := (hb.cell (p := ⟨tb, tf + i2 * 5 + 2, none⟩) htb1).trans z2
                  have d3 := (hb.cell (p := ⟨tb, tf + i2 * 5 + 3, none⟩) htb1).trans z3
                  have d4 := (hb.cell (p := ⟨tb, tf + i2 * 5 + 4, none⟩) htb1).trans z4
                  refine does_value (v := (.agg #[.int .i64 T2.1, .int .i64 T2.2.1, .int .i64 T2.2.2.1, .int .i64 T2.2.2.2.1, .slice a2 n2 c2])) ?_ rfl
                  simp [execOp, Act.eval, h0, go_sem, d0, d1, d2, d3, d4]
                · refine ask_plain rfl (fun _ _ => rfl) (fun val V hb hd => ?_)
                  have h3 : val 3 = (.agg #[.int .i64 T.1, .int .i64 T.2.1, .int .i64 T.2.2.1, .int .i64 T.2.2.2.1, .slice a1 n1 c1]) := depsAll_get hd 3 rfl
                  have h7 : val 7 = (.agg #[.int .i64 T2.1, .int .i64 T2.2.1, .int .i64 T2.2.2.1, .int .i64 T2.2.2.2.1, .slice a2 n2 c2]) := depsAll_get hd 7 rfl
                  refine does_call (f := 10) (args := #[(.agg #[.int .i64 T.1, .int .i64 T.2.1, .int .i64 T.2.2.1, .int .i64 T.2.2.2.1, .slice a1 n1 c1]), (.agg #[.int .i64 T2.1, .int .i64 T2.2.1, .int .i64 T2.2.2.1, .int .i64 T2.2.2.2.1, .slice a2 n2 c2])]) ?_ (AH.out V) (fun e w2 h => ⟨_, h.1, rfl, h.2⟩)
                  simp [execOp, Act.eval, h3, h7, go_sem]
                intro val V hbV hR
                have h8 : val 8 = .bool false := hR 8 (by decide)
                have BV := hid hbV
                clear hR hbV
                go_wp2_with fail
                rw [h8]
                go_wp2_with fail
                go_roundg (k - (q + 1))
                · exact ⟨q + 1, by omega, by omega, by go_num, BQ.out.trans (BV.out.mono BQ.out.size), A2.out⟩
                · omega
            · have hqki : ¬ (q : Int) < k := by omega
              have RN := hid (row_later RW.out BQ.out)
              have A2 : Hid (∀ q, q < k + 1 → ((txO l (ord.getD q 0)).state = 1 ∨ (txO l (ord.getD q 0)).state = 3) ∧ ∀ i, i < q → aheadM (txO l (ord.getD q 0)) (txO l (ord.getD i 0)) = false) := fun x hx => by
                by_cases e : x = k
                · rw [e]; exact ⟨ST.out, fun i hi => AQ.out i (by omega)⟩
                · exact AL.out x (by omega)
              clear AQ BQ
              go_wp2_with fail
              go_roundg (ord.length - (k + 1))
              · exact ⟨k + 1, by omega, by omega, by go_num, BB.out, RN.out, A2.out⟩
              · omega
        · by_cases hs3 : T.state = 3
          · have ST : Hid ((txO l (ord.getD k 0)).state = 1 ∨ (txO l (ord.getD k 0)).state = 3) := by show _ ∨ _; rw [HTX.out]; exact .inr hs3
            have hs' : T.2.1 = 3 := hs3
            clear hs hs3
            go_upto_region 8 with fail
            rw [show wr.setCell ⟨gb, j, none⟩ (.bool true) = W from HW.out]
            go_wp2_with fail
            clear x1 dj fj
            go_loopg [9, 47] k (fun g2 _ i wr2 => ∃ q : Nat, q ≤ k ∧ k - q ≤ g2 ∧ i = .int .i64 q ∧ Aside (Below W.heap.size W wr2) ∧ Aside (∀ i, i < q → aheadM (txO l (ord.getD k 0)) (txO l (ord.getD i 0)) = false))
            case atStart => exact ⟨0, Nat.zero_le _, by omega, rfl, Below.refl _ _, fun i hi => absurd hi (Nat.not_lt_zero _)⟩
            case round =>
              obtain ⟨q, hq, hg2, rfl, BQ, AQ⟩ := hrel
              have BB : Hid (Below w.heap.size w wr) := BW.out.trans (BQ.out.mono BW.out.size)
              by_cases hqk : q < k
              · have hqki : (q : Int) < k := by omega
                obtain ⟨ob2, oo2, he2, kq⟩ := HO.out q (by omega)
                have e1 : ob = ob2 := by injection he2 with e; injection e
                have e2 : oo = oo2 := by injection he2 with e; injection e
                subst e1 e2
                have dq := (BB.out.cell (p := ⟨ob, oo + q, none⟩) hobl).trans kq
                obtain ⟨p1, p2, _, _⟩ := OK.out q (by omega)
                obtain ⟨i2, hi2⟩ : ∃ i2 : Nat, ord.getD q 0 = i2 := ⟨(ord.getD q 0).toNat, by omega⟩
                have hi2' : ord.getD q default = (i2 : Int) := hi2
                rw [hi2'] at dq
                have hil : i2 < l.length := by omega
                have hili : (i2 : Int) < l.length := by omega
                have HTX2 : Hid (txO l (ord.getD q 0) = l.getD i2 default) := by show txO l _ = _; unfold txO; rw [hi2]; rfl
                obtain ⟨tb1, tf1, a1, n1, c1, hta1, htb1, y0, y1, y2, y3, y4⟩ := txc_row (TXW.out.later BQ.out) j hjl
                obtain ⟨tb2, tf2, a2, n2, c2, hta2, htb2, z0, z1, z2, z3, z4⟩ := txc_row (TXW.out.later BQ.out) i2 hil
                have q1 : tb = tb1 := by injection hta1 with e; injection e
                have q2 : tf = tf1 := by injection hta1 with e; injection e
                have q3 : tb = tb2 := by injection hta2 with e; injection e
                have q4 : tf = tf2 := by injection hta2 with e; injection e
                subst q1 q2 q3 q4
                rw [HTT.out] at y0 y1 y2 y3
                have AM : Hid (aheadM (txO l (ord.getD k 0)) (txO l (ord.getD q 0)) = aheadM T (l.getD i2 default)) := by show _ = _; rw [HTX.out, HTX2.out]
                clear hta1 hta2 kq he2 p1 p2 hi2 hi2'
                generalize l.getD i2 default = T2 at *
                have AH := hid (fun V => ahead_is T.1 T.2.1 T.2.2.1 T.2.2.2.1 T2.1 T2.2.1 T2.2.2.1 T2.2.2.2.1 a1 a2 n1 c1 n2 c2 V (aheadM T T2) rfl)
                cases hA : aheadM T T2 with
                | true =>
                  rw [hA] at AH AM
                  have HN : Hid (¬ rightR l ord) := fun h => by
                    have h2 := (h.1 k hlt).2 q hqk
                    rw [AM.out] at h2
                    cases h2
                  clear hA AM
                  go_upto_region 13 with fail
                  refine wp_region_ask Try.mixedOrders (by kernel_rfl) (fun val => { tmps := #[_, _, _, _, _, _, _, _, _, _, _, _, _, _, _, _, _, _, _, _, _, _, _, _, _, _, _, _, _, _, _, _, _, _, _, _, _, _, _, _, _, _, _, _, _, _, _, _, _, _, _, val 0, val 1, val 2, val 3, val 4, val 5, val 6, val 7, val 8, _, _, _, _, _, _, _, _, _, _, _, _, _, _, _, _, _, _, _, _], defers := [] }) (fun i v _ => match i with | 0 => v = .slice (some ⟨tb, tf, none⟩) l.length tc | 1 => v = .int .i64 (j : Int) | 2 => v = .pointer (some ⟨tb, tf + j * 5, none⟩) | 3 => v = (.agg #[.int .i64 T.1, .int .i64 T.2.1, .int .i64 T.2.2.1, .int .i64 T.2.2.2.1, .slice a1 n1 c1]) | 4 => v = .slice (some ⟨tb, tf, none⟩) l.length tc | 5 => v = .int .i64 (i2 : Int) | 6 => v = .pointer (some ⟨tb, tf + i2 * 5, none⟩) | 7 => v = (.agg #[.int .i64 T2.1, .int .i64 T2.2.1, .int .i64 T2.2.2.1, .int .i64 T2.2.2.2.1, .slice a2 n2 c2]) | 8 => v = .bool true | _ => True) (fun i => match i with | 0 => u51 | 1 => u52 | 2 => u53 | 3 => u54 | 4 => u55 | 5 => u56 | 6 => u57 | 7 => u58 | 8 => u59 | _ => undef) rfl (fun i v w w2 hv _ => hv) _ rfl ⟨?_, ?_, ?_, ?_, ?_, ?_, ?_, ?_, ?_, trivial⟩ ?_
                  · exact ask_plain rfl (fun _ _ => rfl) (fun val V hb hd => does_value rfl rfl)
                  · exact ask_plain rfl (fun _ _ => rfl) (fun val V hb hd => does_value rfl rfl)
                  · refine ask_plain rfl (fun _ _ => rfl) (fun val V hb hd => ?_)
                    have h0 : val 0 = .slice (some ⟨tb, tf, none⟩) l.length tc := depsAll_get hd 0 rfl
                    have h1 : val 1 = .int .i64 (j : Int) := depsAll_get hd 1 rfl
                    refine does_value (v := .pointer (some ⟨tb, tf + j * 5, none⟩)) ?_ rfl
                    simp [execOp, Act.eval, h0, h1, go_sem, hjli]
                  · refine ask_plain rfl (fun _ _ => rfl) (fun val V hb hd => ?_)
                    have h0 : val 2 = .pointer (some ⟨tb, tf + j * 5, none⟩) := depsAll_get hd 2 rfl
                    have d0 := (hb.cell (p := ⟨tb, tf + j * 5, none⟩) htb1).trans y0
                    have d1 := (hb.cell (p := ⟨tb, tf + j * 5 + 1, none⟩) htb1).trans y1
                    have d2 := (hb.cell (p := ⟨tb, tf + j * 5 + 2, none⟩) htb1).trans y2
                    have d3 := (hb.cell (p := ⟨tb, tf + j * 5 + 3, none⟩) htb1).trans y3
                    have d4 := (hb.cell (p := ⟨tb, tf + j * 5 + 4, none⟩) htb1).trans y4
                    refine does_value (v := (.agg #[.int .i64 T.1, .int .i64 T.2.1, .int .i64 T.2.2.1, .int .i64 T.2.2.2.1, .slice a1 n1 c1])) ?_ rfl
                    simp [execOp, Act.eval, h0, go_sem, d0, d1, d2, d3, d4]
                  · exact ask_plain rfl (fun _ _ => rfl) (fun val V hb hd => does_value rfl rfl)
                  · exact ask_plain rfl (fun _ _ => rfl) (fun val V hb hd => does_value rfl rfl)
                  · refine ask_plain rfl (fun _ _ => rfl) (fun val V hb hd => ?_)
                    have h0 : val 4 = .slice (some ⟨tb, tf, none⟩) l.length tc := depsAll_get hd 4 rfl
                    have h1 : val 5 = .int .i64 (i2 : Int) := depsAll_get hd 5 rfl
                    refine does_value (v := .pointer (some ⟨tb, tf + i2 * 5, none⟩)) ?_ rfl
                    simp [execOp, Act.eval, h0, h1, go_sem, hili]
                  · refine ask_plain rfl (fun _ _ => rfl) (fun val V hb hd => ?_)
                    have h0 : val 6 = .pointer (some ⟨tb, tf + i2 * 5, none⟩) := depsAll_get hd 6 rfl
                    have d0 := (hb.cell (p := ⟨tb, tf + i2 * 5, none⟩) htb1).trans z0
                    have d1 := (hb.cell (p := ⟨tb, tf + i2 * 5 + 1, none⟩) htb1).trans z1
                    have d2 := (hb.cell (p := ⟨tb, tf + i2 * 5 + 2, none⟩) htb1).trans z2
                    have d3 := (hb.cell (p := ⟨tb, tf + i2 * 5 + 3, none⟩) htb1).trans z3
                    have d4 := (hb.cell (p := ⟨tb, tf + i2 * 5 + 4, none⟩) htb1).trans z4
                    refine does_value (v := (.agg #[.int .i64 T2.1, .int .i64 T2.2.1, .int .i64 T2.2.2.1, .int .i64 T2.2.2.2.1, .slice a2 n2 c2])) ?_ rfl
                    simp [execOp, Act.eval, h0, go_sem, d0, d1, d2, d3, d4]
                  · refine ask_plain rfl (fun _ _ => rfl) (fun val V hb hd => ?_)
                    have h3 : val 3 = (.agg #[.int .i64 T.1, .int .i64 T.2.1, .int .i64 T.2.2.1, .int .i64 T.2.2.2.1, .slice a1 n1 c1]) := depsAll_get hd 3 rfl
                    have h7 : val 7 = (.agg #[.int .i64 T2.1, .int .i64 T2.2.1, .int .i64 T2.2.2.1, .int .i64 T2.2.2.2.1, .slice a2 n2 c2]) := depsAll_get hd 7 rfl
                    refine does_call (f := 10) (args := #[(.agg #[.int .i64 T.1, .int .i64 T.2.1, .int .i64 T.2.2.1, .int .i64 T.2.2.2.1, .slice a1 n1 c1]), (.agg #[.int .i64 T2.1, .int .i64 T2.2.1, .int .i64 T2.2.2.1, .int .i64 T2.2.2.2.1, .slice a2 n2 c2])]) ?_ (AH.out V) (fun e w2 h => ⟨_, h.1, rfl, h.2⟩)
                    simp [execOp, Act.eval, h3, h7, go_sem]
                  intro val V hbV hR
                  have h8 : val 8 = .bool true := hR 8 (by decide)
                  have BV := hid hbV
                  clear hR hbV
                  go_wp2_with fail
                  rw [h8]
                  go_wp2_with fail
                  go_ret
                  exact ⟨false, rfl, ⟨fun c => absurd c (by decide), fun c => absurd c.2 HN.out⟩, BB.out.trans (BV.out.mono BB.out.size)⟩
                | false =>
                  rw [hA] at AH AM
                  have A2 : Hid (∀ i, i < q + 1 → aheadM (txO l (ord.getD k 0)) (txO l (ord.getD i 0)) = false) := fun i hi => by
                    by_cases e : i = q
                    · rw [e]; exact AM.out
                    · exact AQ.out i (by omega)
                  clear hA AM
                  go_upto_region 13 with fail
                  refine wp_region_ask Try.mixedOrders (by kernel_rfl) (fun val => { tmps := #[_, _, _, _, _, _, _, _, _, _, _, _, _, _, _, _, _, _, _, _, _, _, _, _, _, _, _, _, _, _, _, _, _, _, _, _, _, _, _, _, _, _, _, _, _, _, _, _, _, _, _, val 0, val 1, val 2, val 3, val 4, val 5, val 6, val 7, val 8, _, _, _, _, _, _, _, _, _, _, _, _, _, _, _, _, _, _, _, _], defers := [] }) (fun i v _ => match i with | 0 => v = .slice (some ⟨tb, tf, none⟩) l.length tc | 1 => v = .int .i64 (j : Int) | 2 => v = .pointer (some ⟨tb, tf + j * 5, none⟩) | 3 => v = (.agg #[.int .i64 T.1, .int .i64 T.2.1, .int .i64 T.2.2.1, .int .i64 T.2.2.2.1, .slice a1 n1 c1]) | 4 => v = .slice (some ⟨tb, tf, none⟩) l.length tc | 5 => v = .int .i64 (i2 : Int) | 6 => v = .pointer (some ⟨tb, tf + i2 * 5, none⟩) | 7 => v = (.agg #[.int .i64 T2.1, .int .i64 T2.2.1, .int .i64 T2.2.2.1, .int .i64 T2.2.2.2.1, .slice a2 n2 c2]) | 8 => v = .bool false | _ => True) (fun i => match i with | 0 => u51 | 1 => u52 | 2 => u53 | 3 => u54 | 4 => u55 | 5 => u56 | 6 => u57 | 7 => u58 | 8 => u59 | _ => undef) rfl (fun i v w w2 hv _ => hv) _ rfl ⟨?_, ?_, ?_, ?_, ?_, ?_, ?_, ?_, ?_, trivial⟩ ?_
                  · exact ask_plain rfl (fun _ _ => rfl) (fun val V hb hd => does_value rfl rfl)
                  · exact ask_plain rfl (fun _ _ => rfl) (fun val V hb hd => does_value rfl rfl)
                  · refine ask_plain rfl (fun _ _ => rfl) (fun val V hb hd => ?_)
                    have h0 : val 0 = .slice (some ⟨tb, tf, none⟩) l.length tc := depsAll_get hd 0 rfl
                    have h1 : val 1 = .int .i64 (j : Int) := depsAll_get hd 1 rfl
                    refine does_value (v := .pointer (some ⟨tb, tf + j * 5, none⟩)) ?_ rfl
                    simp [execOp, Act.eval, h0, h1, go_sem, hjli]
                  · refine ask_plain rfl (fun _ _ => rfl) (fun val V hb hd => ?_)
                    have h0 : val 2 = .pointer (some ⟨tb, tf + j * 5, none⟩) := depsAll_get hd 2 rfl
                    have d0 := (hb.cell (p := ⟨tb, tf + j * 5, none⟩) htb1).trans y0
                    have d1 := (hb.cell (p := ⟨tb, tf + j * 5 + 1, none⟩) htb1).trans y1
                    have d2 := (hb.cell (p := ⟨tb, tf + j * 5 + 2, none⟩) htb1).trans y2
                    have d3 := (hb.cell (p := ⟨tb, tf + j * 5 + 3, none⟩) htb1).trans y3
                    have d4 := (hb.cell (p := ⟨tb, tf + j * 5 + 4, none⟩) htb1).trans y4
                    refine does_value (v := (.agg #[.int .i64 T.1, .int .i64 T.2.1, .int .i64 T.2.2.1, .int .i64 T.2.2.2.1, .slice a1 n1 c1])) ?_ rfl
                    simp [execOp, Act.eval, h0, go_sem, d0, d1, d2, d3, d4]
                  · exact ask_plain rfl (fun _ _ => rfl) (fun val V hb hd => does_value rfl rfl)
                  · exact ask_plain rfl (fun _ _ => rfl) (fun val V hb hd => does_value rfl rfl)
                  · refine ask_plain rfl (fun _ _ => rfl) (fun val V hb hd => ?_)
                    have h0 : val 4 = .slice (some ⟨tb, tf, none⟩) l.length tc := depsAll_get hd 4 rfl
                    have h1 : val 5 = .int .i64 (i2 : Int) := depsAll_get hd 5 rfl
                    refine does_value (v := .pointer (some ⟨tb, tf + i2 * 5, none⟩)) ?_ rfl
                    simp [execOp, Act.eval, h0, h1, go_sem, hili]
                  · refine ask_plain rfl (fun _ _ => rfl) (fun val V hb hd => ?_)
                    have h0 : val 6 = .pointer (some ⟨tb, tf + i2 * 5, none⟩) := depsAll_get hd 6 rfl
                    have d0 := (hb.cell (p := ⟨tb, tf + i2 * 5, none⟩) htb1).trans z0
                    have d1 := (hb.cell (p := ⟨tb, tf + i2 * 5 + 1, none⟩) htb1).trans z1
                    have d2 := (hb.cell (p := ⟨tb, tf + i2 * 5 + 2, none⟩) htb1).trans z2
                    have d3 := (hb.cell (p := ⟨tb, tf + i2 * 5 + 3, none⟩) htb1).trans z3
                    have d4 := (hb.cell (p := ⟨tb, tf + i2 * 5 + 4, none⟩) htb1).trans z4
                    refine does_value (v := (.agg #[.int .i64 T2.1, .int .i64 T2.2.1, .int .i64 T2.2.2.1, .int .i64 T2.2.2.2.1, .slice a2 n2 c2])) ?_ rfl
                    simp [execOp, Act.eval, h0, go_sem, d0, d1, d2, d3, d4]
                  · refine ask_plain rfl (fun _ _ => rfl) (fun val V hb hd => ?_)
                    have h3 : val 3 = (.agg #[.int .i64 T.1, .int .i64 T.2.1, .int .i64 T.2.2.1, .int .i64 T.2.2.2.1, .slice a1 n1 c1]) := depsAll_get hd 3 rfl
                    have h7 : val 7 = (.agg #[.int .i64 T2.1, .int .i64 T2.2.1, .int .i64 T2.2.2.1, .int .i64 T2.2.2.2.1, .slice a2 n2 c2]) := depsAll_get hd 7 rfl
                    refine does_call (f := 10) (args := #[(.agg #[.int .i64 T.1, .int .i64 T.2.1, .int .i64 T.2.2.1, .int .i64 T.2.2.2.1, .slice a1 n1 c1]), (.agg #[.int .i64 T2.1, .int .i64 T2.2.1, .int .i64 T2.2.2.1, .int .i64 T2.2.2.2.1, .slice a2 n2 c2])]) ?_ (AH.out V) (fun e w2 h => ⟨_, h.1, rfl, h.2⟩)
                    simp [execOp, Act.eval, h3, h7, go_sem]
                  intro val V hbV hR
                  have h8 : val 8 = .bool false := hR 8 (by decide)
                  have BV := hid hbV
                  clear hR hbV
                  go_wp2_with fail
                  rw [h8]
                  go_wp2_with fail
                  go_roundg (k - (q + 1))
                  · exact ⟨q + 1, by omega, by omega, by go_num, BQ.out.trans (BV.out.mono BQ.out.size), A2.out⟩
                  · omega
              · have hqki : ¬ (q : Int) < k := by omega
                have RN := hid (row_later RW.out BQ.out)
                have A2 : Hid (∀ q, q < k + 1 → ((txO l (ord.getD q 0)).state = 1 ∨ (txO l (ord.getD q 0)).state = 3) ∧ ∀ i, i < q → aheadM (txO l (ord.getD q 0)) (txO l (ord.getD i 0)) = false) := fun x hx => by
                  by_cases e : x = k
                  · rw [e]; exact ⟨ST.out, fun i hi => AQ.out i (by omega)⟩
                  · exact AL.out x (by omega)
                clear AQ BQ
                go_wp2_with fail
                go_roundg (ord.length - (k + 1))
                · exact ⟨k + 1, by omega, by omega, by go_num, BB.out, RN.out, A2.out⟩
                · omega
          · have HN : Hid (¬ rightR l ord) := fun h => by
              have h2 := (h.1 k hlt).1
              rw [HTX.out] at h2
              rcases h2 with h2 | h2
              · exact hs h2
              · exact hs3 h2
            have hs' : ¬ T.2.1 = 1 := hs
            have hsb : (T.2.1 == 1) = false := by simpa using hs
            have hs3' : ¬ T.2.1 = 3 := hs3
            have hs3b : (T.2.1 == 3) = false := by simpa using hs3
            have hsn : (T.2.1 != 1) = true := by simpa using hs
            have hs3n : (T.2.1 != 3) = true := by simpa using hs3
            go_upto_region 8 with fail
            rw [show wr.setCell ⟨gb, j, none⟩ (.bool true) = W from HW.out]
            go_wp2_with fail
            go_ret
            exact ⟨false, rfl, ⟨fun c => absurd c (by decide), fun c => absurd c.2 HN.out⟩, BW.out⟩
      · have hlti : ¬ (k : Int) < ord.length := by omega
        have hke : k = ord.length := by omega
        have RE : Hid (wr.rowIs gb 4 l.length (fun j => .bool (doneB ord ord.length j))) := by rw [← hke]; exact RR.out
        have AE : Hid (∀ q, q < ord.length → ((txO l (ord.getD q 0)).state = 1 ∨ (txO l (ord.getD q 0)).state = 3) ∧ ∀ i, i < q → aheadM (txO l (ord.getD q 0)) (txO l (ord.getD i 0)) = false) := by rw [← hke]; exact AL.out
        clear RR AL hke
        go_wp2_with fail
        go_loopg [10, 11, 64] l.length (fun g _ _ i wr => ∃ j : Nat, j ≤ l.length ∧ l.length - j ≤ g ∧ i = .int .i64 j ∧ Aside (Below w.heap.size w wr) ∧ Aside (wr.rowIs gb 4 l.length (fun j => .bool (doneB ord ord.length j))) ∧ Aside (∀ q, q < j → (l.getD q default).state = 1 → ∃ k, k < ord.length ∧ ord.getD k 0 = (q : Int)))
        case atStart => exact ⟨0, Nat.zero_le _, by omega, rfl, BR.out, RE.out, fun q hq => absurd hq (Nat.not_lt_zero _)⟩
        case round =>
          clear BR RE
          obtain ⟨j, hj, hgj, rfl, BY, RY, AY⟩ := hrel
          by_cases hjl : j < l.length
          · have hjli : (j : Int) < l.length := by omega
            obtain ⟨tb, tf, a1, n1, c1, hta, htb, x0, x1, x2, x3, x4⟩ := txc_row (HT.out.later BY.out) j hjl
            subst hta
            obtain ⟨cs, hcs, hcz, hci⟩ := RY.out
            have dj : wr.cell? ⟨gb, j, none⟩ = some (.bool (doneB ord ord.length j)) := (Lib.cell_of_heap hcs j).trans (hci j hjl)
            have hgl : gb < wr.heap.size := blt hcs
            have BN : ∀ o, Hid (Below w.heap.size w (wr.alloc o)) := fun o => BY.out.trans ((below_box wr _).mono BY.out.size)
            have RN : ∀ o, Hid ((wr.alloc o).rowIs gb 4 l.length (fun j => .bool (doneB ord ord.length j))) := fun o => row_later RY.out (below_box wr _)
            have AN : Hid (((l.getD j default).state = 1 → doneB ord ord.length j = true) → ∀ q, q < j + 1 → (l.getD q default).state = 1 → ∃ k, k < ord.length ∧ ord.getD k 0 = (q : Int)) := fun h q hq hs => by
              by_cases e : q = j
              · subst e
                obtain ⟨i, hi, he⟩ := (done_true ord ord.length q).1 (h hs)
                exact ⟨i, hi, he⟩
              · exact AY.out q (by omega) hs
            have NN : Hid ((l.getD j default).state = 1 → doneB ord ord.length j = false → ¬ rightR l ord) := fun hs hd h => by
              obtain ⟨i, hi, he⟩ := h.2 j hjl hs
              rw [(done_true ord ord.length j).2 ⟨i, hi, he⟩] at hd
              cases hd
            clear hcs hcz hci RY AY BY
            generalize l.getD j default = T at *
            generalize doneB ord ord.length j = dn at *
            by_cases hs : T.state = 1
            · have hs' : T.2.1 = 1 := hs
              cases dn with
              | true =>
                have A2 := hid (AN.out (fun _ => rfl))
                clear AN NN hs
                go_wp2_with fail
                go_roundg (l.length - (j + 1))
                · exact ⟨j + 1, by omega, by omega, by go_num, (BN _).out, (RN _).out, A2.out⟩
                · omega
              | false =>
                have N2 := hid (NN.out hs rfl)
                clear AN NN hs
                go_wp2_with fail
                go_ret
                exact ⟨false, rfl, ⟨fun c => absurd c (by decide), fun c => absurd c.2 N2.out⟩, (BN _).out⟩
            · have hs' : ¬ T.2.1 = 1 := hs
              have hsb : (T.2.1 == 1) = false := by simpa using hs
              have A2 := hid (AN.out (fun h => absurd h hs))
              clear AN NN hs
              go_wp2_with fail
              go_roundg (l.length - (j + 1))
              · exact ⟨j + 1, by omega, by omega, by go_num, (BN _).out, (RN _).out, A2.out⟩
              · omega
          · have hjli : ¬ (j : Int) < l.length := by omega
            have FIN : Hid (RRPost l ord w (.returned (.bool true)) wr) := ⟨true, rfl, ⟨fun _ => ⟨OK.out, AE.out, fun q hq => AY.out q (by omega)⟩, fun _ => rfl⟩, BY.out⟩
            go_wp2_with fail
            go_ret
            exact FIN.out
end Go.Proofs.Ytgfnjebnfhgimaa
