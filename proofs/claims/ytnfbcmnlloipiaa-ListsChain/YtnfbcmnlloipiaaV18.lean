/-
  The walk of ListsTwice.
  Of a store that does one transaction at a time nothing is wrong, and all dependencies lead on: the walk of the law.
  The document's longest read, its writer of a value, and who failed.
  The document's SameList; its state in memory.
  The document's writer of a value; who failed; which list begins another.
-/
import Derived.Test.YtnfbcmnlloipiaaV16
import Derived.Test.YtnfbcmnlloipiaaV17
namespace Go.Proofs.Ytnfbcmnlloipiaa
set_option linter.unusedVariables false
set_option linter.unusedSimpArgs false
open Go.RowKit Go.Lib Go.Maps Go.Sort
open Tx (MTxn info_parts flatten_len flatten_get RowsIn.cells RowCells TxnRow TxnsIn TxnsOwn setCell_self cloneInts_any OpsOwn smallL cutTxn cutOp)

set_option maxHeartbeats 16000000 in
set_option maxRecDepth 100000 in
theorem ltwice_walk (tv : Value) (l0 : List MTxn) (n0 : Int) (w : World) (ht : TxnsIn Any w tv l0) (hok : ∀ t ∈ l0, ∀ o ∈ t.ops, OpOk o) (hwl : ∀ t ∈ l0, ∀ o ∈ t.ops, ∀ x ∈ o.list, (Lit.int .i64 x).wf = true) :
    Calls Try.prog 7 #[tv, .int .i64 n0] w fun e w' => e = .returned (.bool true) ∧ Below w.heap.size w w' := by
  obtain ⟨i0, hi0, hz0, hz1, hz2⟩ := info_parts Try.infoT
  have HI0 := hid hi0
  have HZ0 := hid hz0
  have HZ1 := hid hz1
  have HZ2 := hid hz2
  have HT := hid ht
  have hG0 := small_good hok hwl
  obtain ⟨L, hL⟩ : ∃ L, smallL l0 = L := ⟨_, rfl⟩
  have hlen : L.length ≤ 40 := by rw [← hL]; exact small_len l0
  rw [hL] at hG0
  have HG := hid hG0
  have HL := hid hL
  have hli : (L.length : Int) ≤ 40 := by omega
  clear hi0 hz0 hz1 hz2 ht hok hwl hL hG0
  go_enter Try.func7, Try.ntmps7
  go_upto_region 2 with (go_at_call 9; refine (Tx.small_any _ l0 _ HT.out).mono ?_; rintro e w3 ⟨v1, rfl, h1, b1⟩; rw [show smallL l0 = L from HL.out] at h1; have T3 : Hid (TxnsIn Any w3 v1 L) := txns_ins h1; have B3 := hid b1; clear h1 b1)
  obtain ⟨a1, c1, rfl, hc1⟩ := id T3.out
  clear hc1
  by_cases hl0 : L.length = 0
  · have hl0i : ((L.length : Int) == 0) = true := by simp [hl0]
    go_wp2_with fail
    go_ret
    exact ⟨rfl, B3.out⟩
  · have hl1 : ((L.length : Int) == 0) = false := by rw [beq_eq_false_iff_ne]; omega
    have hl2 : ¬ (L.length : Int) = 0 := by omega
    obtain ⟨I, hI, hD⟩ := u64_mod n0 L.length (by omega) (by omega)
    have hIi : (I : Int) < L.length := by omega
    obtain ⟨ao, cc, hao, hbytes, hrow⟩ := RowsIn.cells T3.out (by omega)
    obtain ⟨b, o, cs, rfl, hbl, _, ⟨ov, hcs, hops⟩, hcell⟩ := hrow I hI
    subst hcs
    have e1 : a1 = some ⟨b, o, none⟩ := by injection hao
    subst e1
    obtain ⟨oa, oc, hov, _⟩ := id hops
    subst hov
    have d0 := hcell 0 _ rfl
    have d1 := hcell 1 _ rfl
    have d2 := hcell 2 _ rfl
    have d3 := hcell 3 _ rfl
    have d4 := hcell 4 _ rfl
    rw [Nat.add_zero] at d0
    have HOP := hid hops
    have hten : (L.getD I default).ops.length ≤ 10 := HG.out.ten _ (getD_mem L I hI)
    have TW := hid (twice_uniq L I hI)
    have HX : Hid (L.getD I default ∈ L) := getD_mem L I hI
    clear hcell hrow hao hops hbytes
    generalize L.getD I default = X at *
    obtain ⟨xp, xs, xf, xt, xo⟩ := X
    simp only [MTxn.proc, MTxn.state, MTxn.since, MTxn.till, MTxn.ops] at d0 d1 d2 d3 d4 HOP hten TW
    go_upto_region 5 with fail
    obtain ⟨w4, hW⟩ : ∃ W, w3.alloc (.cells #[.int .i64 xp, .int .i64 xs, .int .i64 xf, .int .i64 xt, .slice oa xo.length oc] 47) = W := ⟨_, rfl⟩
    obtain ⟨xb, hxb⟩ : ∃ xb, w3.heap.size = xb := ⟨_, rfl⟩
    have BW : Hid (Below w3.heap.size w3 w4) := by rw [← hW]; exact below_box w3 _
    have q0 : w4.cell? ⟨xb, 0, none⟩ = some (.int .i64 xp) := by rw [← hW, ← hxb]; simp
    have q1 : w4.cell? ⟨xb, 1, none⟩ = some (.int .i64 xs) := by rw [← hW, ← hxb]; simp
    have q2 : w4.cell? ⟨xb, 2, none⟩ = some (.int .i64 xf) := by rw [← hW, ← hxb]; simp
    have q3 : w4.cell? ⟨xb, 3, none⟩ = some (.int .i64 xt) := by rw [← hW, ← hxb]; simp
    have q4 : w4.cell? ⟨xb, 4, none⟩ = some (.slice oa xo.length oc) := by rw [← hW, ← hxb]; simp
    have hw4 : xb < w4.heap.size := by rw [← hW, ← hxb, alloc_size]; omega
    rw [hxb, hW]
    have B5 : Hid (Below w.heap.size w w4) := B3.out.trans (BW.out.mono B3.out.size)
    have T5 := hid (T3.out.below BW.out)
    have O5 : Hid (OpsIn Any w4 (.slice oa xo.length oc) xo) := HOP.out.below BW.out
    have HG2 : Hid (Good (L ++ [(xp, xs, xf, xt, xo)])) := HG.out.more HX.out (by omega)
    clear hW hxb BW B3 T3 HOP d0 d1 d2 d3 d4
    have CT1 := hid (cloneT_any (α := MTxn) (R := TxnRow Any w4.drew) _ L w4.drew (T5.out.below (Below.refl _ _).drew) txnRow_one)
    have CT2 := hid (cloneT_any (α := MTxn) (R := TxnRow Any ((w4.alloc (.cells #[.int .i64 xp, .int .i64 xs, .int .i64 xf, .int .i64 xt, .slice oa xo.length oc] 47)).drew)) _ L ((w4.alloc (.cells #[.int .i64 xp, .int .i64 xs, .int .i64 xf, .int .i64 xt, .slice oa xo.length oc] 47)).drew) (T5.out.below (below_box w4 _).drew) txnRow_one)
    have hw4b : xb < ((w4.alloc (.cells #[.int .i64 xp, .int .i64 xs, .int .i64 xf, .int .i64 xt, .slice oa xo.length oc] 47)).drew).heap.size := by show xb < (w4.alloc _).heap.size; rw [alloc_size]; omega
    have hwb2 : w4.heap.size < ((w4.alloc (.cells #[.int .i64 xp, .int .i64 xs, .int .i64 xf, .int .i64 xt, .slice oa xo.length oc] 47)).drew).heap.size := by show w4.heap.size < (w4.alloc _).heap.size; rw [alloc_size]; omega
    have q0b : ((w4.alloc (.cells #[.int .i64 xp, .int .i64 xs, .int .i64 xf, .int .i64 xt, .slice oa xo.length oc] 47)).drew).cell? ⟨xb, 0, none⟩ = some (.int .i64 xp) := ((below_box w4 _).drew.cell (p := ⟨xb, 0, none⟩) hw4).trans q0
    have q1b : ((w4.alloc (.cells #[.int .i64 xp, .int .i64 xs, .int .i64 xf, .int .i64 xt, .slice oa xo.length oc] 47)).drew).cell? ⟨xb, 1, none⟩ = some (.int .i64 xs) := ((below_box w4 _).drew.cell (p := ⟨xb, 1, none⟩) hw4).trans q1
    have q2b : ((w4.alloc (.cells #[.int .i64 xp, .int .i64 xs, .int .i64 xf, .int .i64 xt, .slice oa xo.length oc] 47)).drew).cell? ⟨xb, 2, none⟩ = some (.int .i64 xf) := ((below_box w4 _).drew.cell (p := ⟨xb, 2, none⟩) hw4).trans q2
    have q3b : ((w4.alloc (.cells #[.int .i64 xp, .int .i64 xs, .int .i64 xf, .int .i64 xt, .slice oa xo.length oc] 47)).drew).cell? ⟨xb, 3, none⟩ = some (.int .i64 xt) := ((below_box w4 _).drew.cell (p := ⟨xb, 3, none⟩) hw4).trans q3
    have q4b : ((w4.alloc (.cells #[.int .i64 xp, .int .i64 xs, .int .i64 xf, .int .i64 xt, .slice oa xo.length oc] 47)).drew).cell? ⟨xb, 4, none⟩ = some (.slice oa xo.length oc) := ((below_box w4 _).drew.cell (p := ⟨xb, 4, none⟩) hw4).trans q4
    have XN : Hid (∀ u ∈ ([.int .i64 xp, .int .i64 xs, .int .i64 xf, .int .i64 xt, .slice oa xo.length oc] : List Value), u.oneCell' = true) := by
      intro u hu
      simp only [List.mem_cons, List.not_mem_nil, or_false] at hu
      rcases hu with rfl | rfl | rfl | rfl | rfl <;> rfl
    go_region_law (first
      | (refine step_append_lies (wC.alloc (.cells #[.int .i64 xp, .int .i64 xs, .int .i64 xf, .int .i64 xt, .slice oa xo.length oc] 47)) rfl (.tmp 28) (.tmp 30) 22 rfl w4.drew.heap.size 47 i0 _ 5 56 Try.underlying22 HI0.out HZ0.out HZ1.out HZ2.out rfl (by decide) (.slice ka L.length kc) L.length rows.flatten (by simp [Act.eval, Act.put]) (own_same R4.out (fun y hy => by rw [alloc_at, if_neg (by have := (own_block R4.out hy).2.1; omega)])) ⟨wC.heap.size, 0, none⟩ 1 1 [.int .i64 xp, .int .i64 xs, .int .i64 xf, .int .i64 xt, .slice oa xo.length oc] (by simp [Act.eval, Act.put]) rfl (World.news_of_block (cs := #[.int .i64 xp, .int .i64 xs, .int .i64 xf, .int .i64 xt, .slice oa xo.length oc]) (t := 47) (fr := (0, 0)) (heap_alloc_new wC _)) XN.out (by decide) (by unfold maxLen; omega) (by omega) (by have h9 := BC.out.size; rw [alloc_size]; omega) (wC.heap.size + 1) (by simp) ?_; intro g cap w6 hown6 hgrow hat hglt; have B6 : Hid (Below w4.drew.heap.size w4.drew w6) := ((BC.out.alloc BC.out.size _).grown hgrow (by have h9 := BC.out.size; rw [alloc_size]; omega) (fun y hy => (own_block R4.out hy).1)); have T6 : Hid (TxnsIn Any w6 (.slice (some ⟨g, 0, none⟩) (L.length + 1) cap) (L ++ [(xp, xs, xf, xt, xo)])) := more_txns R1.out R2.out R3.out (O5.out.below (Below.refl _ _).drew) B6.out (by omega) hown6; have B7 : Hid (Below w4.heap.size w4 w6) := (Below.refl _ _).drew.trans B6.out; clear hown6 hgrow hat hglt)
      | (refine step_append_lies wC rfl (.tmp 28) (.tmp 30) 22 rfl ((w4.alloc (.cells #[.int .i64 xp, .int .i64 xs, .int .i64 xf, .int .i64 xt, .slice oa xo.length oc] 47)).drew).heap.size 47 i0 _ 5 56 Try.underlying22 HI0.out HZ0.out HZ1.out HZ2.out rfl (by decide) (.slice ka L.length kc) L.length rows.flatten (by simp [Act.eval, Act.put]) R4.out ⟨w4.heap.size, 0, none⟩ 1 1 [.int .i64 xp, .int .i64 xs, .int .i64 xf, .int .i64 xt, .slice oa xo.length oc] (by simp [Act.eval, Act.put]) rfl NB.out XN.out (by decide) (by unfold maxLen; omega) (by omega) BC.out.size wC.heap.size rfl ?_; intro g cap w6 hown6 hgrow hat hglt; have B6 : Hid (Below ((w4.alloc (.cells #[.int .i64 xp, .int .i64 xs, .int .i64 xf, .int .i64 xt, .slice oa xo.length oc] 47)).drew).heap.size ((w4.alloc (.cells #[.int .i64 xp, .int .i64 xs, .int .i64 xf, .int .i64 xt, .slice oa xo.length oc] 47)).drew) w6) := (BC.out.grown hgrow BC.out.size (fun y hy => (own_block R4.out hy).1)); have T6 : Hid (TxnsIn Any w6 (.slice (some ⟨g, 0, none⟩) (L.length + 1) cap) (L ++ [(xp, xs, xf, xt, xo)])) := more_txns R1.out R2.out R3.out (O5.out.below (below_box _ _).drew) B6.out (by omega) hown6; have B7 : Hid (Below w4.heap.size w4 w6) := (below_box w4 _).drew.trans (B6.out.mono (by show w4.heap.size ≤ (w4.alloc _).heap.size; rw [alloc_size]; omega)); clear hown6 hgrow hat hglt)
      | (rw [if_pos (by simp [Region.wanted])]; go_simp; refine CT1.out.mono ?_; rintro e wC ⟨vC, rfl, ⟨rows, r1, r2, r3, r4⟩, bC⟩; obtain ⟨ka, kc, rfl⟩ := own_slice r4; have R1 := hid r1; have R2 := hid r2; have R3 := hid r3; have R4 := hid r4; have BC := hid bC; have n0 := (bC.cell (p := ⟨xb, 0, none⟩) hw4).trans q0; have n1 := (bC.cell (p := ⟨xb, 1, none⟩) hw4).trans q1; have n2 := (bC.cell (p := ⟨xb, 2, none⟩) hw4).trans q2; have n3 := (bC.cell (p := ⟨xb, 3, none⟩) hw4).trans q3; have n4 := (bC.cell (p := ⟨xb, 4, none⟩) hw4).trans q4; clear r1 r2 r3 r4 bC)
      | (rw [if_pos (by simp [Region.wanted])]; go_simp; refine CT2.out.mono ?_; rintro e wC ⟨vC, rfl, ⟨rows, r1, r2, r3, r4⟩, bC⟩; obtain ⟨ka, kc, rfl⟩ := own_slice r4; have R1 := hid r1; have R2 := hid r2; have R3 := hid r3; have R4 := hid r4; have BC := hid bC; have n0 := (bC.cell (p := ⟨xb, 0, none⟩) hw4b).trans q0b; have n1 := (bC.cell (p := ⟨xb, 1, none⟩) hw4b).trans q1b; have n2 := (bC.cell (p := ⟨xb, 2, none⟩) hw4b).trans q2b; have n3 := (bC.cell (p := ⟨xb, 3, none⟩) hw4b).trans q3b; have n4 := (bC.cell (p := ⟨xb, 4, none⟩) hw4b).trans q4b; have NB : Hid (∀ j u, ([.int .i64 xp, .int .i64 xs, .int .i64 xf, .int .i64 xt, .slice oa xo.length oc] : List Value)[j]? = some u → wC.cell? ((⟨w4.heap.size, 0, none⟩ : Addr).add j) = some u) := World.news_of_block (cs := #[.int .i64 xp, .int .i64 xs, .int .i64 xf, .int .i64 xt, .slice oa xo.length oc]) (t := 47) (fr := (0, 0)) (BC.out.block w4.heap.size hwb2 |>.trans (heap_alloc_new w4 _)); clear r1 r2 r3 r4 bC))

    all_goals
      have hL2 : (L ++ [(xp, xs, xf, xt, xo)]).length = L.length + 1 := by simp
      obtain ⟨L2, hL2d⟩ : ∃ L2, L ++ [(xp, xs, xf, xt, xo)] = L2 := ⟨_, rfl⟩
      rw [hL2d] at hL2 HG2 TW
      have HL2 := hid hL2
      clear hL2
      have T6b : Hid (TxnsIn Any w6 (.slice (some ⟨g, 0, none⟩) (L.length + 1) cap) L2) := by rw [← hL2d]; exact T6.out
      have NW := hid (tnew_is w6 _ L2 T6b.out HG2.out.len HG2.out.ten HG2.out.ok)
      have B6w : Hid (Below w.heap.size w w6) := B5.out.trans (B7.out.mono B5.out.size)
      have O6 : Hid (OpsIn Any w6 (.slice oa xo.length oc) xo) := O5.out.below B7.out
      have r4 : w6.cell? ⟨xb, 4, none⟩ = some (.slice oa xo.length oc) := (B7.out.cell (p := ⟨xb, 4, none⟩) hw4).trans q4
      have hw6 : xb < w6.heap.size := Nat.lt_of_lt_of_le hw4 B7.out.size
      clear T6 hL2d B6 B7 q0 q1 q2 q3 q4 T5 O5
      go_upto_region 7 with (go_at_call 10; refine NW.out.mono ?_; rintro e w8 ⟨tb, rfl, hm8, b8⟩; have M8 := hid hm8; have B8 := hid b8; clear hm8 b8)
      have s4 : w8.cell? ⟨xb, 4, none⟩ = some (.slice oa xo.length oc) := (B8.out.cell (p := ⟨xb, 4, none⟩) hw6).trans r4
      have CF := hid (contFO_is w8 _ xo (O6.out.below B8.out) (by omega))
      obtain ⟨wr0, hwr0⟩ : ∃ wr0, xo.any (fun o => isW o.kind) = wr0 := ⟨_, rfl⟩
      rw [hwr0] at TW CF
      have T8 := hid (T6b.out.below B8.out)
      have B8w : Hid (Below w.heap.size w w8) := B6w.out.trans (B8.out.mono B6w.out.size)
      clear hwr0 r4 hw6 NW O6 T6b B8 B6w
      go_wp2_with (first
        | (go_at_call 27; refine CF.out.mono ?_; rintro e w9 ⟨rfl, b9⟩; have T9 := hid (T8.out.below b9); have M9 : Hid (Made w6.heap.size w9 tb L2) := M8.out.later b9; have B9 : Hid (Below w.heap.size w w9) := B8w.out.trans (b9.mono B8w.out.size); clear b9)
        | (go_at_call 11; refine (rkeys_is w9 _ L2 T9.out HG2.out.len HG2.out.ten).mono ?_; rintro e w10 ⟨kv, rfl, hsr, b10⟩; obtain ⟨ka, kc, hkv⟩ := own_slice hsr; subst hkv; have SR := hid hsr; have M10 : Hid (Made w6.heap.size w10 tb L2) := M9.out.later b10; have B10 : Hid (Below w.heap.size w w10) := B9.out.trans (b10.mono B9.out.size); clear hsr b10))
      clear CF M8 T8 B8w M9 T9 B9 s4
      have hkl : (keysN (notes L2 L2.length) []).length ≤ 10000 := Nat.le_trans (keys_len _) HG2.out.nlen
      have CO : Hid (∀ W, Below w10.heap.size w10 W → Calls Try.prog 21 #[.pointer (some ⟨tb, 0, none⟩)] W fun e w' => e = .returned (.int .i64 (L2.length : Int)) ∧ W = w') := fun W hb => count_is _ W tb L2 (M10.out.later hb)
      rw [HL2.out] at CO
      obtain ⟨KN, hKN⟩ : ∃ KN, (keysN (notes L2 L2.length) []).length = KN := ⟨_, rfl⟩
      have KEY : Hid (∀ q, q < KN → ∃ gk s, ka = some ⟨gk, 0, none⟩ ∧ gk < w10.heap.size ∧ w10.cell? ⟨gk, q, none⟩ = some (.string s) ∧ s.size ≤ maxLen) := fun q hq => by
        obtain ⟨gk, c', hv⟩ := own_some SR.out (by omega)
        cases hv
        obtain ⟨s, h1, h2, _⟩ := key_at HG2.out SR.out q (by omega)
        exact ⟨gk, s, rfl, World.block_lt_of_cell? _ _ h1, h1, h2⟩
      rw [hKN] at hkl
      rw [show (keysN (notes L2 L2.length) []).length = KN from hKN]
      have hkli : (KN : Int) ≤ 10000 := by omega
      clear hKN SR
      go_loopg [9, 10, 11, 40] KN (fun gg _ _ _ i wr => ∃ k : Nat, k ≤ KN ∧ KN - k ≤ gg ∧ i = .int .i64 k ∧ Aside (Below w10.heap.size w10 wr))
      case atStart => exact ⟨0, Nat.zero_le _, by omega, rfl, Below.refl _ _⟩
      case round =>
        obtain ⟨k, hk, hgk, rfl, BR⟩ := hrel
        by_cases hlt : k < KN
        · have hlti : (k : Int) < KN := by omega
          obtain ⟨gk, s, rfl, hgl, hc, hss⟩ := KEY.out k hlt
          have cv := (BR.out.cell (p := ⟨gk, k, none⟩) hgl).trans hc
          have MR : Hid (Made w6.heap.size wr tb L2) := M10.out.later BR.out
          have HSS := hid hss
          clear hc hss
          cases wr0 with
          | true =>
            have HN : Hid (¬ tellN L2 s) := fun c => absurd (TW.out.1 c.2).1 (by decide)
            have UT : Hid (Untold (.pointer (some ⟨tb, 0, none⟩)) s wr) := fun W hb => look_un _ tb L2 s W (MR.out.later hb) HSS.out HN.out
            go_wp2_with (first
              | (go_at_call 12; refine (trace_un _ s wr UT.out.untrue).mono ?_; rintro e w11 ⟨rfl, b11⟩; have U1 := hid (UT.out.later b11); have B11 := hid b11; clear b11)
              | (go_at_call 15; refine (anom_un _ s w11 U1.out).mono ?_; rintro e w12 ⟨rfl, b12⟩; have U2 := hid (U1.out.later b12); have B12 := hid (B11.out.trans (b12.mono B11.out.size)); clear b12)
              | (go_at_call 19; refine (edges_un _ s w12 U2.out.untrue).mono ?_; rintro e w13 ⟨rfl, b13⟩; have B13 := hid (B12.out.trans (b13.mono B12.out.size)); clear b13))
            go_roundg (KN - (k + 1))
            case measure => omega
            case rel => exact ⟨k + 1, by omega, by omega, by go_num, BR.out.trans (B13.out.mono BR.out.size)⟩
          | false =>
            by_cases hok2 : okN L2 s
            · have TR := hid (trace_yes _ tb L2 s wr MR.out HSS.out HG2.out hok2)
              clear hok2
              go_wp2_with (go_at_call 12; refine TR.out.mono ?_; rintro e w11 ⟨ta, tc, rfl, _, b11⟩; have B11 := hid b11; clear b11)
              go_roundg (KN - (k + 1))
              case measure => omega
              case rel => exact ⟨k + 1, by omega, by omega, by go_num, BR.out.trans (B11.out.mono BR.out.size)⟩
            · have UT : Hid (Untrue (.pointer (some ⟨tb, 0, none⟩)) s wr) := trusted_not _ tb L2 s wr MR.out HSS.out HG2.out hok2
              clear hok2
              go_wp2_with (go_at_call 12; refine (trace_un _ s wr UT.out).mono ?_; rintro e w11 ⟨rfl, b11⟩; have B11 := hid b11; clear b11)
              go_roundg (KN - (k + 1))
              case measure => omega
              case rel => exact ⟨k + 1, by omega, by omega, by go_num, BR.out.trans (B11.out.mono BR.out.size)⟩
        · have hke : k = KN := by omega
          have hlti : ¬ (k : Int) < KN := by omega
          have hce : (((L.length : Int) + 1) == ((L.length : Int) + 1)) = true := by simp
          have hcast : ((L.length + 1 : Nat) : Int) = (L.length : Int) + 1 := by omega
          rw [hcast] at CO
          go_wp2_with (go_at_call 21; refine (CO.out _ BR.out).mono ?_; rintro e w11 ⟨rfl, rfl⟩)
          go_ret
          exact ⟨rfl, B10.out.trans (BR.out.mono B10.out.size)⟩
end Go.Proofs.Ytnfbcmnlloipiaa
namespace Go.Proofs.Ytnfbcmnlloipiaa
set_option linter.unusedVariables false
set_option linter.unusedSimpArgs false
open Go.RowKit Go.Lib Go.Maps Go.Sort
open Tx (MTxn info_parts RowsIn.cells RowCells TxnRow TxnsIn smallL)

theorem whysE_at : ∀ (E : List MWy) (q i : Nat), q < E.length → i < 8 → (whysC E)[q * 8 + i]? = (whyCs (E.getD q default))[i]?
  | [], q, i, h, _ => by simp at h
  | a :: l, 0, i, _, hi => by
    show (whyCs a ++ whysC l)[0 * 8 + i]? = _
    rw [Nat.zero_mul, Nat.zero_add, List.getElem?_append_left (by simp [whyCs]; omega)]
    rfl
  | a :: l, q + 1, i, h, hi => by
    show (whyCs a ++ whysC l)[(q + 1) * 8 + i]? = _
    rw [List.getElem?_append_right (by simp [whyCs]; omega)]
    rw [show (q + 1) * 8 + i - (whyCs a).length = q * 8 + i from by simp [whyCs]; omega]
    exact whysE_at l q i (by simpa using h) hi
/-- What is known once the serial history's table was made and its keys told. -/
structure Sv0 (L : List MTxn) : Prop where
  ser : Ser L
  good : Good L
theorem Sv0.tr {L : List MTxn} (h : Sv0 L) {s : ByteArray} (hk : kindN (notes L L.length) s ≠ 0) (hs : s.size ≤ maxLen) (B tb : Nat) (W : World) (m : Made B W tb L) : Calls Try.prog 12 #[.pointer (some ⟨tb, 0, none⟩), .string s] W fun e w' => ∃ ta tc, e = .returned (.tuple #[.slice ta (knwN L s (notes L L.length)).ts.length tc, .bool true]) ∧ IntsIn (fun b => W.heap.size ≤ b) w' (.slice ta (knwN L s (notes L L.length)).ts.length tc) (knwN L s (notes L L.length)).ts ∧ Below W.heap.size W w' := trace_yes B tb L s W m hs h.good (h.ser.ok hk)
theorem Sv0.an {L : List MTxn} (h : Sv0 L) {s : ByteArray} (hk : kindN (notes L L.length) s ≠ 0) (hs : s.size ≤ maxLen) (B tb : Nat) (W : World) (m : Made B W tb L) : Calls Try.prog 15 #[.pointer (some ⟨tb, 0, none⟩), .string s] W fun e w' => ∃ a c, e = .returned (.slice a 0 c) ∧ Below W.heap.size W w' := by
  refine (anom_yes B tb L s W m hs h.good (h.ser.tell hk)).mono fun e w' q => ?_
  obtain ⟨v, q1, q2, q3⟩ := q
  rw [h.ser.ano] at q2
  obtain ⟨a, c, hv⟩ := own_slice q2
  exact ⟨a, c, by rw [q1, hv]; rfl, q3⟩
theorem Sv0.ed {L : List MTxn} (h : Sv0 L) {s : ByteArray} (hk : kindN (notes L L.length) s ≠ 0) (hs : s.size ≤ maxLen) (B tb : Nat) (W : World) (m : Made B W tb L) : Calls Try.prog 19 #[.pointer (some ⟨tb, 0, none⟩), .string s] W fun e w' => ∃ v, e = .returned v ∧ w'.ownsRow W.heap.size 40 8 v (edgN L s).length (whysC (edgN L s)) ∧ Below W.heap.size W w' := edges_yes B tb L s W m hs h.good (h.ser.ok hk)
theorem onceW_len (ws : List MWy) : ∀ out : List MWy, (ws.foldl stepW out).length ≤ out.length + ws.length := by
  induction ws with
  | nil => intro out; simp
  | cons a ws ih =>
    intro out
    have h1 := ih (stepW out a)
    have h2 := step_len out a
    simp only [List.foldl_cons, List.length_cons]
    omega
theorem flat_w {α β : Type} (g : α → List β) (h : ∀ x, (g x).length ≤ 1) : ∀ l : List α, (l.flatMap g).length ≤ l.length
  | [] => by simp
  | a :: l => by
    rw [List.flatMap_cons, List.length_append, List.length_cons]
    have := h a
    have := flat_w g h l
    omega
theorem edgN_len {L : List MTxn} (h : Good L) (s : ByteArray) : (edgN L s).length ≤ 200000 := by
  unfold edgN onceW
  have q := onceW_len (depsL (srcN L s (notes L L.length)) s (knwN L s (notes L L.length)).ts (rdsN L s (notes L L.length))) []
  have hr := h.rlen (s := s)
  have ht := (h.trace (s := s)).2
  have h1 := flat_w (wrE (srcN L s (notes L L.length)) s) (fun r => by unfold wrE; split <;> simp) (rdsN L s (notes L L.length))
  have h2 := flat_w (rwE (srcN L s (notes L L.length)) s (knwN L s (notes L L.length)).ts) (fun r => by unfold rwE; split <;> simp) (rdsN L s (notes L L.length))
  unfold depsL at q ⊢
  rw [List.length_append, List.length_append, List.length_map, List.length_range] at q
  simp only [List.length_nil] at q
  omega
set_option maxHeartbeats 16000000 in
set_option maxRecDepth 100000 in
theorem lserved_walk (tv : Value) (l0 : List MTxn) (w : World) (ht : TxnsIn Any w tv l0) (hok : ∀ t ∈ l0, ∀ o ∈ t.ops, OpOk o) (hwl : ∀ t ∈ l0, ∀ o ∈ t.ops, ∀ x ∈ o.list, (Lit.int .i64 x).wf = true) :
    Calls Try.prog 5 #[tv] w fun e w' => e = .returned (.bool true) ∧ Below w.heap.size w w' := by
  have HT := hid ht
  have hG0 := small_good hok hwl
  obtain ⟨L0, hL⟩ : ∃ L0, smallL l0 = L0 := ⟨_, rfl⟩
  have hlen0 : L0.length ≤ 40 := by rw [← hL]; exact small_len l0
  rw [hL] at hG0
  have HG0 := hid hG0
  have HL := hid hL
  have hli0 : (L0.length : Int) ≤ 40 := by omega
  clear ht hok hwl hL hG0
  go_enter Try.func5, Try.ntmps5
  go_upto_region 2 with (go_at_call 9; refine (Tx.small_any _ l0 _ HT.out).mono ?_; rintro e w1 ⟨v1, rfl, h1, b1⟩; rw [show smallL l0 = L0 from HL.out] at h1; have T1 : Hid (TxnsIn Any w1 v1 L0) := txns_ins h1; have B1 := hid b1; obtain ⟨a1, c1, rfl, hc1⟩ := RowsIn.cells T1.out (by omega); have HC1 := hid hc1.1.2; clear h1 b1 hc1)
  have hmin : min (L0.length : Int) 60 = (L0.length : Int) := by omega
  have hcap : (L0.length : Int) ≤ (c1 : Int) := by have := HC1.out; omega
  have hcapn : L0.length ≤ c1 := HC1.out
  go_upto_region 3 with (go_at_call 23; refine (serial_is w1 _ L0 T1.out hlen0 HG0.out).mono ?_; rintro e w2 ⟨v2, L, rfl, h2, s2, g2, hl2, b2⟩; have T2 := hid h2; have SV : Hid (Sv0 L) := ⟨s2, g2⟩; have HLL := hid hl2; have B2 : Hid (Below w.heap.size w w2) := B1.out.trans (b2.mono B1.out.size); obtain ⟨a2, c2, rfl, _⟩ := RowsIn.cells T2.out (by omega); clear h2 s2 g2 hl2 b2)
  clear hmin hcap hcapn HG0 HL HC1 T1 B1
  have hlen : L.length ≤ 40 := by have := HLL.out; omega
  have hlenI : (L.length : Int) ≤ 40 := by omega
  clear HLL
  go_upto_region 4 with (go_at_call 10; refine (tnew_is w2 _ L T2.out SV.out.good.len SV.out.good.ten SV.out.good.ok).mono ?_; rintro e w3 ⟨tb, rfl, hm3, b3⟩; have M3 := hid hm3; have B3 := hid b3; clear hm3 b3)
  have hkl : (keysN (notes L L.length) []).length ≤ 10000 := Nat.le_trans (keys_len _) SV.out.good.nlen
  go_wp2_with (go_at_call 11; refine (rkeys_is w3 _ L (T2.out.below B3.out) SV.out.good.len SV.out.good.ten).mono ?_; rintro e w8 ⟨kv, rfl, hsr, b8⟩; obtain ⟨ka, kc, hkv⟩ := own_slice hsr; subst hkv; have SR := hid hsr; have M8 : Hid (Made w2.heap.size w8 tb L) := M3.out.later b8; have B8 : Hid (Below w.heap.size w w8) := (B2.out.trans (B3.out.mono B2.out.size)).trans (b8.mono (B2.out.trans (B3.out.mono B2.out.size)).size); clear hsr b8)
  have CO : Hid (∀ W, Below w8.heap.size w8 W → Calls Try.prog 21 #[.pointer (some ⟨tb, 0, none⟩)] W fun e w' => e = .returned (.int .i64 (L.length : Int)) ∧ W = w') := fun W hb => count_is _ W tb L (M8.out.later hb)
  obtain ⟨KN, hKN⟩ : ∃ KN, (keysN (notes L L.length) []).length = KN := ⟨_, rfl⟩
  have KEY : Hid (∀ q, q < KN → ∃ (g : Nat) (s : ByteArray), ka = some ⟨g, 0, none⟩ ∧ w8.cell? ⟨g, q, none⟩ = some (.string s) ∧ s.size ≤ maxLen ∧ kindN (notes L L.length) s ≠ 0) := fun q hq => by
    obtain ⟨gk, c', hv⟩ := own_some SR.out (by omega)
    cases hv
    obtain ⟨s, h1, h2, h3⟩ := key_at SV.out.good SR.out q (by omega)
    exact ⟨gk, s, rfl, h1, h2, h3⟩
  rw [hKN] at hkl
  rw [show (keysN (notes L L.length) []).length = KN from hKN]
  have hkli : (KN : Int) ≤ 10000 := by omega
  clear hKN SR M3 B3
  go_loopg [5, 6, 7, 9, 23] KN (fun gg _ _ _ _ i wr => ∃ k : Nat, k ≤ KN ∧ KN - k ≤ gg ∧ i = .int .i64 k ∧ Aside (Below w8.heap.size w8 wr))
  case atStart => exact ⟨0, Nat.zero_le _, by omega, rfl, Below.refl _ _⟩
  case round =>
    obtain ⟨k, hk, hgk, rfl, BR⟩ := hrel
    by_cases hlt : k < KN
    · have hlti : (k : Int) < (KN : Int) := by omega
      obtain ⟨g8, s, rfl, hc, hss, hkd⟩ := KEY.out k hlt
      have cv := (BR.out.cell (p := ⟨g8, k, none⟩) (World.block_lt_of_cell? _ _ hc)).trans hc
      have TQ : Hid (∀ W, Below w8.heap.size w8 W → Calls Try.prog 12 #[.pointer (some ⟨tb, 0, none⟩), .string s] W fun e w' => ∃ ta tc, e = .returned (.tuple #[.slice ta (knwN L s (notes L L.length)).ts.length tc, .bool true]) ∧ IntsIn (fun b => W.heap.size ≤ b) w' (.slice ta (knwN L s (notes L L.length)).ts.length tc) (knwN L s (notes L L.length)).ts ∧ Below W.heap.size W w') := fun W hb => SV.out.tr hkd hss _ tb W (M8.out.later hb)
      have AQ : Hid (∀ W, Below w8.heap.size w8 W → Calls Try.prog 15 #[.pointer (some ⟨tb, 0, none⟩), .string s] W fun e w' => ∃ a c, e = .returned (.slice a 0 c) ∧ Below W.heap.size W w') := fun W hb => SV.out.an hkd hss _ tb W (M8.out.later hb)
      have EQ : Hid (∀ W, Below w8.heap.size w8 W → Calls Try.prog 19 #[.pointer (some ⟨tb, 0, none⟩), .string s] W fun e w' => ∃ v, e = .returned v ∧ w'.ownsRow W.heap.size 40 8 v (edgN L s).length (whysC (edgN L s)) ∧ Below W.heap.size W w') := fun W hb => SV.out.ed hkd hss _ tb W (M8.out.later hb)
      have hel := edgN_len SV.out.good s
      have LEAD : Hid (∀ q, q < (edgN L s).length → 0 ≤ ((edgN L s).getD q default).1 ∧ ((edgN L s).getD q default).1 < ((edgN L s).getD q default).2.1 ∧ ((edgN L s).getD q default).2.1 < (L.length : Int)) := fun q hq => SV.out.ser.leads (s := s) (by rw [getD_is hq]; exact List.getElem_mem hq)
      generalize edgN L s = E at *
      generalize (knwN L s (notes L L.length)).ts = TS at *
      have heli : (E.length : Int) ≤ 200000 := by omega
      clear hc hss hkd
      go_wp2_with (first
        | (go_at_call 12; refine (TQ.out _ BR.out).mono ?_; rintro e w11 ⟨ta, tc, rfl, _, b11⟩; have B11 := hid (BR.out.trans (b11.mono BR.out.size)); clear b11)
        | (go_at_call 15; refine (AQ.out _ B11.out).mono ?_; rintro e w12 ⟨aa, ac, rfl, b12⟩; have B12 := hid (B11.out.trans (b12.mono B11.out.size)); clear b12)
        | (go_at_call 19; refine (EQ.out _ B12.out).mono ?_; rintro e w13 ⟨v13, rfl, o13, b13⟩; obtain ⟨ea, ec, hx13⟩ := own_slice o13; subst hx13; have O13 := hid o13; have B13 := hid (B12.out.trans (b13.mono B12.out.size)); clear o13 b13))
      go_loopg [9, 46] E.length (fun gg _ i wi => ∃ q : Nat, q ≤ E.length ∧ E.length - q ≤ gg ∧ i = .int .i64 q ∧ Aside (Below w8.heap.size w8 wi) ∧ Aside (Below w13.heap.size w13 wi))
      case atStart => exact ⟨0, Nat.zero_le _, by omega, rfl, B13.out, Below.refl _ _⟩
      case round =>
        obtain ⟨q, hq, hgq, rfl, BQ, BQ13⟩ := hrel
        by_cases hql : q < E.length
        · have hqli : (q : Int) < (E.length : Int) := by omega
          obtain ⟨eg, ec', hv⟩ := own_some O13.out (by omega)
          cases hv
          have ce : ∀ i u, i < 8 → (whyCs (E.getD q default))[i]? = some u → wr.cell? ⟨eg, q * 8 + i, none⟩ = some u := fun i u hi hu => by
            have h0 := (O13.out.cellAt (q * 8 + i) (by omega)).trans ((whysE_at E q i hql hi).trans hu)
            exact (BQ13.out.cell (p := ⟨eg, q * 8 + i, none⟩) (World.block_lt_of_cell? _ _ h0)).trans h0
          obtain ⟨ld1, ld2, ld3⟩ := LEAD.out q hql
          obtain ⟨Y, hY⟩ : ∃ Y, E.getD q default = Y := ⟨_, rfl⟩
          rw [hY] at ce ld1 ld2 ld3
          obtain ⟨e1, e2, e3, e4, e5, e6, e7⟩ := Y
          simp only at ld1 ld2 ld3
          have y0 := ce 0 _ (by omega) rfl
          have y1 := ce 1 _ (by omega) rfl
          have y2 := ce 2 _ (by omega) rfl
          have y3 := ce 3 _ (by omega) rfl
          have y4 := ce 4 _ (by omega) rfl
          have y5 := ce 5 _ (by omega) rfl
          have y6 := ce 6 _ (by omega) rfl
          have y7 := ce 7 _ (by omega) rfl
          rw [Nat.add_zero] at y0
          simp only at y0 y1 y2 y3 y4 y5 y6 y7
          have BN : ∀ o, Hid (Below w8.heap.size w8 (wr.alloc o)) := fun o => BQ.out.trans ((below_box wr _).mono BQ.out.size)
          have BN13 : ∀ o, Hid (Below w13.heap.size w13 (wr.alloc o)) := fun o => BQ13.out.trans ((below_box wr _).mono BQ13.out.size)
          have t1 : ¬ e2 ≤ e1 := by omega
          have t2 : ¬ e1 < 0 := by omega
          have t3 : ¬ (L.length : Int) ≤ e2 := by omega
          have d1 : decide (e2 ≤ e1) = false := decide_eq_false t1
          have d2 : decide (e1 < 0) = false := decide_eq_false t2
          have d3 : decide ((L.length : Int) ≤ e2) = false := decide_eq_false t3
          clear hY ce ld1 ld2 ld3
          go_wp2_with fail
          go_roundg (E.length - (q + 1))
          case measure => omega
          case rel => exact ⟨q + 1, by omega, by omega, by go_num, (BN _).out, (BN13 _).out⟩
        · have hqe : q = E.length := by omega
          have hqli : ¬ (q : Int) < (E.length : Int) := by omega
          clear hqe
          go_wp2_with fail
          go_roundg (KN - (k + 1))
          case measure => omega
          case rel => exact ⟨k + 1, by omega, by omega, by go_num, BQ.out⟩
    · have hke : k = KN := by omega
      have hlti : ¬ (k : Int) < (KN : Int) := by omega
      have hce : ((L.length : Int) == (L.length : Int)) = true := by simp
      clear hke
      go_wp2_with (go_at_call 21; refine (CO.out _ BR.out).mono ?_; rintro e w11 ⟨rfl, rfl⟩)
      go_ret
      exact ⟨rfl, B8.out.trans (BR.out.mono B8.out.size)⟩
end Go.Proofs.Ytnfbcmnlloipiaa
namespace Go.Proofs.Ytnfbcmnlloipiaa
set_option linter.unusedVariables false
set_option linter.unusedSimpArgs false
open Go.RowKit Go.Lib Go.Maps Go.Sort
open Tx (MTxn info_parts RowsIn.cells RowCells TxnRow TxnsIn)

/-- The first of the longest, as the document tells it. -/
def longD : List MRx → MRx
  | [] => (0, 0, [])
  | r :: R => R.foldl longS r
theorem longD_snoc (R : List MRx) (r : MRx) (h : 0 < R.length) : longD (R ++ [r]) = longS (longD R) r := by
  cases R with
  | nil => simp at h
  | cons a R =>
    show ((R ++ [r]).foldl longS a) = _
    rw [List.foldl_append]
    rfl
theorem longD_next (RX : List MRx) (k : Nat) (hk : k < RX.length) (h0 : 0 < k) : longD (RX.take (k + 1)) = longS (longD (RX.take k)) (RX.getD k default) := by
  rw [List.take_add_one, List.getElem?_eq_getElem hk]
  show longD (RX.take k ++ [RX[k]]) = _
  rw [longD_snoc _ _ (by simp; omega)]
  simp [List.getD, List.getElem?_eq_getElem hk]
theorem longD_mem (R : List MRx) (h : 0 < R.length) : longD R ∈ R := by
  cases R with
  | nil => simp at h
  | cons a R =>
    rcases long_mem R a with e | e
    · show R.foldl longS a ∈ _
      rw [e]
      simp
    · exact List.mem_cons_of_mem _ e
/-- Both tell the same list, and where it has a value the same read. -/
theorem longD_is (R : List MRx) : (longD R).2.2 = (longR R).2.2 ∧ (0 < (longR R).2.2.length → longD R = longR R) := by
  cases R with
  | nil => exact ⟨rfl, fun _ => rfl⟩
  | cons a R =>
    have key : ∀ (R : List MRx) (t u : MRx), t.2.2 = [] → u.2.2 = [] → (R.foldl longS t).2.2 = (R.foldl longS u).2.2 ∧ (0 < (R.foldl longS u).2.2.length → R.foldl longS t = R.foldl longS u) := by
      intro R
      induction R with
      | nil => intro t u ht hu; exact ⟨by simp [ht, hu], fun h => by simp [hu] at h⟩
      | cons b R ih =>
        intro t u ht hu
        rw [List.foldl_cons, List.foldl_cons]
        by_cases hb : 0 < b.2.2.length
        · have e1 : longS t b = b := if_pos (by rw [ht]; exact hb)
          have e2 : longS u b = b := if_pos (by rw [hu]; exact hb)
          rw [e1, e2]
          exact ⟨rfl, fun _ => rfl⟩
        · have e1 : longS t b = t := if_neg (by rw [ht]; exact hb)
          have e2 : longS u b = u := if_neg (by rw [hu]; exact hb)
          rw [e1, e2]
          exact ih t u ht hu
    show (R.foldl longS a).2.2 = ((a :: R).foldl longS (0, 0, [])).2.2 ∧ _
    rw [List.foldl_cons]
    by_cases ha : 0 < a.2.2.length
    · have e : longS (0, 0, []) a = a := if_pos ha
      have e3 : longR (a :: R) = R.foldl longS a := by
        show (a :: R).foldl longS (0, 0, []) = _
        rw [List.foldl_cons, e]
      rw [e]
      exact ⟨rfl, fun _ => e3.symm⟩
    · have e : longS (0, 0, []) a = (0, 0, []) := if_neg ha
      have e3 : longR (a :: R) = R.foldl longS (0, 0, []) := by
        show (a :: R).foldl longS (0, 0, []) = _
        rw [List.foldl_cons, e]
      have ha0 : a.2.2 = [] := List.length_eq_zero_iff.1 (by omega)
      have := key R a (0, 0, []) ha0 rfl
      rw [e]
      refine ⟨this.1, fun h => ?_⟩
      rw [e3] at h ⊢
      exact this.2 h
/-- The best of the first k reads, in memory. -/
def Bst (R : List MRd) (RX : List MRx) (k : Nat) (m : MRd) : Prop := (k = 0 ∧ m = (0, 0, none, 0, 0)) ∨ (0 < k ∧ ∃ q, q < k ∧ m = R.getD q default ∧ RX.getD q default = longD (RX.take k))
theorem rds_len_at {D : Nat → Prop} {w : World} {R : List MRd} {RX : List MRx} (h : RdsD D w R RX) (q : Nat) (hq : q < R.length) : (R.getD q default).2.2.2.1 = (RX.getD q default).2.2.length := by
  obtain ⟨a, c, e, _⟩ := h.at' q hq
  rw [e]
theorem Bst.next {D : Nat → Prop} {w : World} {R : List MRd} {RX : List MRx} (h : RdsD D w R RX) {k : Nat} {m : MRd} (hb : Bst R RX k m) (hk : k < R.length) : (k = 0 ∨ m.2.2.2.1 < (R.getD k default).2.2.2.1 → Bst R RX (k + 1) (R.getD k default)) ∧ (¬ k = 0 → ¬ m.2.2.2.1 < (R.getD k default).2.2.2.1 → Bst R RX (k + 1) m) := by
  have hkx : k < RX.length := h.len ▸ hk
  have hl := rds_len_at h k hk
  rcases hb with ⟨rfl, rfl⟩ | ⟨h0, q, hq, rfl, e⟩
  · refine ⟨fun _ => .inr ⟨by omega, 0, by omega, rfl, ?_⟩, fun c => absurd rfl c⟩
    cases RX with
    | nil => simp at hkx
    | cons a RX => rfl
  · have hql := rds_len_at h q (by omega)
    have en := longD_next RX k hkx h0
    refine ⟨fun c => .inr ⟨by omega, k, by omega, rfl, ?_⟩, fun _ c => .inr ⟨by omega, q, by omega, rfl, ?_⟩⟩
    · rw [en, ← e]
      rcases c with c | c
      · omega
      · rw [hql, hl] at c
        exact (if_pos c).symm
    · rw [en, ← e]
      rw [hql, hl] at c
      exact (if_neg c).symm
set_option maxHeartbeats 4000000 in
set_option maxRecDepth 100000 in
theorem longest_walk (B : Nat) (v : Value) (R : List MRd) (RX : List MRx) (w0 w : World) (h : w.ownsRow B 87 3 v R.length (rdC R)) (hR : RdsD Any w0 R RX) (hl : R.length ≤ 100000) :
    Calls Try.prog 37 #[v] w fun e w' => ∃ m : MRd, e = .returned (.agg #[.int .i64 m.1, .int .i64 m.2.1, .slice m.2.2.1 m.2.2.2.1 m.2.2.2.2]) ∧ Bst R RX R.length m ∧ Below w.heap.size w w' := by
  obtain ⟨ra, rc, hrv⟩ := own_slice h
  subst hrv
  have HO := hid h
  have HR := hid hR
  have hli : (R.length : Int) ≤ 100000 := by omega
  clear h hR
  go_enter Try.func37, Try.ntmps37
  go_wp2_with fail
  have S0 : Hid (Below w.heap.size w ((w.alloc (.cells #[.int .i64 0, .int .i64 0, .slice none 0 0] 87)).alloc (.cells #[.int .i64 0, .int .i64 0, .slice none 0 0] 87)) ∧ ((w.alloc (.cells #[.int .i64 0, .int .i64 0, .slice none 0 0] 87)).alloc (.cells #[.int .i64 0, .int .i64 0, .slice none 0 0] 87)).heap[w.heap.size]? = some (.cells #[.int .i64 0, .int .i64 0, .slice none 0 0] 87) ∧ ∃ m : MRd, ((w.alloc (.cells #[.int .i64 0, .int .i64 0, .slice none 0 0] 87)).alloc (.cells #[.int .i64 0, .int .i64 0, .slice none 0 0] 87)).heap[w.heap.size + 1]? = some (.cells #[.int .i64 m.1, .int .i64 m.2.1, .slice m.2.2.1 m.2.2.2.1 m.2.2.2.2] 87) ∧ Bst R RX 0 m) := by
    have s1 : (w.alloc (.cells #[.int .i64 0, .int .i64 0, .slice none 0 0] 87)).heap.size = w.heap.size + 1 := alloc_size _ _
    refine ⟨(below_box w _).alloc (by rw [s1]; omega) _, ?_, (0, 0, none, 0, 0), ?_, .inl ⟨rfl, rfl⟩⟩
    · rw [alloc_at, if_neg (by rw [s1]; omega)]
      exact heap_alloc_new w _
    · have := heap_alloc_new (w.alloc (.cells #[.int .i64 0, .int .i64 0, .slice none 0 0] 87)) (.cells #[.int .i64 0, .int .i64 0, .slice none 0 0] 87)
      rw [s1] at this
      exact this
  generalize (w.alloc (.cells #[.int .i64 0, .int .i64 0, .slice none 0 0] 87)).alloc (.cells #[.int .i64 0, .int .i64 0, .slice none 0 0] 87) = W0 at *
  go_loopg [4, 5, 8] R.length (fun gg _ _ i wr => ∃ k : Nat, k ≤ R.length ∧ R.length - k ≤ gg ∧ i = .int .i64 k ∧ Aside (Below w.heap.size w wr ∧ wr.heap[w.heap.size]? = some (.cells #[.int .i64 0, .int .i64 0, .slice none 0 0] 87) ∧ ∃ m : MRd, wr.heap[w.heap.size + 1]? = some (.cells #[.int .i64 m.1, .int .i64 m.2.1, .slice m.2.2.1 m.2.2.2.1 m.2.2.2.2] 87) ∧ Bst R RX k m))
  case atStart => exact ⟨0, Nat.zero_le _, by omega, rfl, S0.out⟩
  case round =>
    obtain ⟨k, hk, hgk, rfl, SR⟩ := hrel
    obtain ⟨bw, hz, m, hm, hb⟩ := SR.out
    obtain ⟨m1, m2, ma, mn, mc⟩ := m
    have BW := hid bw
    have HZ := hid hz
    have HM := hid hm
    have HB := hid hb
    clear SR bw
    by_cases hlt : k < R.length
    · have hlti : (k : Int) < R.length := by omega
      obtain ⟨g, c', hv⟩ := own_some HO.out (by omega)
      cases hv
      have hgl : g < w.heap.size := (own_block HO.out rfl).2.1
      obtain ⟨NX1, NX2⟩ := hb.next HR.out hlt
      have ce : ∀ i u, i < 3 → (rdVs (R.getD k default))[i]? = some u → wr.cell? ⟨g, k * 3 + i, none⟩ = some u := fun i u hi hu => (BW.out.cell (p := ⟨g, k * 3 + i, none⟩) hgl).trans ((HO.out.cellAt (k * 3 + i) (by omega)).trans ((rdC_at R k i hlt hi).trans hu))
      generalize R.getD k default = r at *
      obtain ⟨r1, r2, la, ln, lc⟩ := r
      have x0 := ce 0 _ (by omega) rfl
      have x1 := ce 1 _ (by omega) rfl
      have x2 := ce 2 _ (by omega) rfl
      simp only [Nat.add_zero] at x0 x1 x2
      have c0 : ∀ o, (wr.alloc o).cell? ⟨w.heap.size + 1, 0, none⟩ = some (.int .i64 m1) := fun o => Lib.cell?_alloc_some _ (Lib.cell_of_heap hm 0)
      have c1 : ∀ o, (wr.alloc o).cell? ⟨w.heap.size + 1, 1, none⟩ = some (.int .i64 m2) := fun o => Lib.cell?_alloc_some _ (Lib.cell_of_heap hm 1)
      have c2 : ∀ o, (wr.alloc o).cell? ⟨w.heap.size + 1, 2, none⟩ = some (.slice ma mn mc) := fun o => Lib.cell?_alloc_some _ (Lib.cell_of_heap hm 2)
      have hbl : w.heap.size + 1 < wr.heap.size := blt hm
      have hne : ¬ (w.heap.size + 1 = wr.heap.size) := by omega
      have AH : ∀ o b, b < wr.heap.size → (wr.alloc o).heap[b]? = wr.heap[b]? := fun o b hb' => by rw [alloc_at, if_neg (by omega)]
      have fz : ∀ o i, (wr.alloc o).frozen? ⟨w.heap.size + 1, i, none⟩ = false := fun o i => Lib.frozen_of_heap ((AH o _ hbl).trans hm) i
      have d0 : wr.cell? ⟨w.heap.size + 1, 0, none⟩ = some (.int .i64 m1) := Lib.cell_of_heap hm 0
      have d1 : wr.cell? ⟨w.heap.size + 1, 1, none⟩ = some (.int .i64 m2) := Lib.cell_of_heap hm 1
      have d2 : wr.cell? ⟨w.heap.size + 1, 2, none⟩ = some (.slice ma mn mc) := Lib.cell_of_heap hm 2
      have fw : ∀ i, wr.frozen? ⟨w.heap.size + 1, i, none⟩ = false := fun i => Lib.frozen_of_heap hm i
      have HNX1 := hid NX1
      have HNX2 := hid NX2
      clear NX1 NX2 ce hz hm hb
      have STY : ∀ o, Hid (Bst R RX (k + 1) (r1, r2, la, ln, lc) → Below w.heap.size w ((((wr.setCell ⟨w.heap.size + 1, 0, none⟩ (.int .i64 r1)).setCell ⟨w.heap.size + 1, 1, none⟩ (.int .i64 r2)).setCell ⟨w.heap.size + 1, 2, none⟩ (.slice la ln lc)).alloc o) ∧ ((((wr.setCell ⟨w.heap.size + 1, 0, none⟩ (.int .i64 r1)).setCell ⟨w.heap.size + 1, 1, none⟩ (.int .i64 r2)).setCell ⟨w.heap.size + 1, 2, none⟩ (.slice la ln lc)).alloc o).heap[w.heap.size]? = some (.cells #[.int .i64 0, .int .i64 0, .slice none 0 0] 87) ∧ ∃ m : MRd, ((((wr.setCell ⟨w.heap.size + 1, 0, none⟩ (.int .i64 r1)).setCell ⟨w.heap.size + 1, 1, none⟩ (.int .i64 r2)).setCell ⟨w.heap.size + 1, 2, none⟩ (.slice la ln lc)).alloc o).heap[w.heap.size + 1]? = some (.cells #[.int .i64 m.1, .int .i64 m.2.1, .slice m.2.2.1 m.2.2.2.1 m.2.2.2.2] 87) ∧ Bst R RX (k + 1) m) := fun o hB => by
        have BS : Below w.heap.size w (((wr.setCell ⟨w.heap.size + 1, 0, none⟩ (.int .i64 r1)).setCell ⟨w.heap.size + 1, 1, none⟩ (.int .i64 r2)).setCell ⟨w.heap.size + 1, 2, none⟩ (.slice la ln lc)) := ((BW.out.setCell (by show w.heap.size ≤ w.heap.size + 1; omega) _).setCell (by show w.heap.size ≤ w.heap.size + 1; omega) _).setCell (by show w.heap.size ≤ w.heap.size + 1; omega) _
        have h1 : (((wr.setCell ⟨w.heap.size + 1, 0, none⟩ (.int .i64 r1)).setCell ⟨w.heap.size + 1, 1, none⟩ (.int .i64 r2)).setCell ⟨w.heap.size + 1, 2, none⟩ (.slice la ln lc)).heap[w.heap.size]? = some (.cells #[.int .i64 0, .int .i64 0, .slice none 0 0] 87) := by
          rw [set_ne (by show w.heap.size ≠ w.heap.size + 1; omega), set_ne (by show w.heap.size ≠ w.heap.size + 1; omega), set_ne (by show w.heap.size ≠ w.heap.size + 1; omega)]
          exact HZ.out
        have h2 : (((wr.setCell ⟨w.heap.size + 1, 0, none⟩ (.int .i64 r1)).setCell ⟨w.heap.size + 1, 1, none⟩ (.int .i64 r2)).setCell ⟨w.heap.size + 1, 2, none⟩ (.slice la ln lc)).heap[w.heap.size + 1]? = some (.cells #[.int .i64 r1, .int .i64 r2, .slice la ln lc] 87) := Go.Joins.block_setCell (Go.Joins.block_setCell (Go.Joins.block_setCell HM.out _) _) _
        refine ⟨BS.trans ((below_box _ o).mono BS.size), ?_, (r1, r2, la, ln, lc), ?_, hB⟩
        · rw [alloc_at, if_neg (by have := blt h1; omega)]
          exact h1
        · rw [alloc_at, if_neg (by have := blt h2; omega)]
          exact h2
      by_cases h0 : k = 0
      · subst h0
        have hB : Hid (Bst R RX (0 + 1) (r1, r2, la, ln, lc)) := HNX1.out (.inl rfl)
        go_wp2_with fail
        go_roundg (R.length - (0 + 1))
        case measure => omega
        case rel => exact ⟨0 + 1, by omega, by omega, by go_num, (STY _).out hB.out⟩
      · have hk0 : ((k : Int) == 0) = false := by rw [beq_eq_false_iff_ne]; omega
        by_cases hgt : mn < ln
        · have hgti : (mn : Int) < ln := by omega
          have hB : Hid (Bst R RX (k + 1) (r1, r2, la, ln, lc)) := HNX1.out (.inr hgt)
          go_wp2_with fail
          go_roundg (R.length - (k + 1))
          case measure => omega
          case rel => exact ⟨k + 1, by omega, by omega, by go_num, (STY _).out hB.out⟩
        · have hgti : ¬ (mn : Int) < ln := by omega
          have hB : Hid (Bst R RX (k + 1) (m1, m2, ma, mn, mc)) := HNX2.out h0 hgt
          go_wp2_with fail
          go_roundg (R.length - (k + 1))
          case measure => omega
          case rel => exact ⟨k + 1, by omega, by omega, by go_num, BW.out.trans ((below_box wr _).mono BW.out.size), (AH _ _ (by omega)).trans HZ.out, (m1, m2, ma, mn, mc), (AH _ _ hbl).trans HM.out, hB.out⟩
    · have hke : k = R.length := by omega
      have hlti : ¬ (k : Int) < R.length := by omega
      subst hke
      have c0 := Lib.cell_of_heap hm 0
      have c1 := Lib.cell_of_heap hm 1
      have c2 := Lib.cell_of_heap hm 2
      have y0 := Lib.cell_of_heap hz 0
      have y1 := Lib.cell_of_heap hz 1
      have y2 := Lib.cell_of_heap hz 2
      have f0 := Lib.frozen_of_heap hz 0
      have f1 := Lib.frozen_of_heap hz 1
      have f2 := Lib.frozen_of_heap hz 2
      simp only [List.getElem?_toArray, List.getElem?_cons_zero, List.getElem?_cons_succ] at c0 c1 c2 y0 y1 y2
      clear hz hm hb
      go_wp2_with fail
      refine bodyPost_ret (v := .agg #[.int .i64 m1, .int .i64 m2, .slice ma mn mc]) (by simp [results, Try.results37, go_sem, y0, y1, y2]) rfl ?_
      exact ⟨m1, m2, ma, mn, mc, rfl, HB.out, ((BW.out.setCell (Nat.le_refl _) _).setCell (Nat.le_refl _) _).setCell (Nat.le_refl _) _⟩
/-- The first of the longest reads, with its list. -/
theorem longest_is (B : Nat) (v : Value) (R : List MRd) (RX : List MRx) (w0 w : World) (h : w.ownsRow B 87 3 v R.length (rdC R)) (hR : RdsD Any w0 R RX) (hl : R.length ≤ 100000) :
    Calls Try.prog 37 #[v] w fun e w' => ∃ ta tc, e = .returned (.agg #[.int .i64 (longD RX).1, .int .i64 (longD RX).2.1, .slice ta (longD RX).2.2.length tc]) ∧ IntsIn Any w0 (.slice ta (longD RX).2.2.length tc) (longD RX).2.2 ∧ (∀ x ∈ (longD RX).2.2, (Lit.int .i64 x).wf = true) ∧ Below w.heap.size w w' := by
  refine (longest_walk B v R RX w0 w h hR hl).mono ?_
  rintro e w' ⟨m, rfl, hb, hw⟩
  rcases hb with ⟨h0, rfl⟩ | ⟨h0, q, hq, rfl, e⟩
  · have : RX = [] := List.length_eq_zero_iff.1 (by rw [← hR.len]; exact h0)
    subst this
    exact ⟨none, 0, rfl, ⟨none, 0, rfl, ⟨by simp [longD], Nat.zero_le _⟩, fun hc => by simp [longD] at hc⟩, fun x hx => by simp [longD] at hx, hw⟩
  · rw [List.take_of_length_le (by rw [hR.len]; exact Nat.le_refl _)] at e
    obtain ⟨a, c, e1, e2, e3⟩ := hR.at' q hq
    rw [e] at e1 e2 e3
    rw [e1]
    exact ⟨a, c, rfl, e2, e3, hw⟩
end Go.Proofs.Ytnfbcmnlloipiaa
namespace Go.Proofs.Ytnfbcmnlloipiaa
set_option linter.unusedVariables false
set_option linter.unusedSimpArgs false
open Go.RowKit Go.Lib

set_option maxHeartbeats 400000 in
theorem sameList_walk (a1 a2 : Option Addr) (c1 c2 n : Nat) (xs ys : List Int) (w : World) (hx : xs.length = n) (hy : ys.length = n) (_hbig : n ≤ 9223372036854775807)
    (h1 : IntCells w a1 xs n) (h2 : IntCells w a2 ys n) :
    Calls Try.prog 49 #[.slice a1 n c1, .slice a2 n c2] w fun e w' => e = .returned (.bool (intsEq xs ys)) ∧ ∃ q, w' = w.drewN q := by
  have HX : Hid (xs.length = n) := hx
  have HY : Hid (ys.length = n) := hy
  clear hx hy
  go_enter Try.func49, Try.ntmps49
  go_wp2
  go_loopg [5, 13] n (fun g _ i wr => ∃ k : Nat, k ≤ n ∧ n - k ≤ g ∧ i = .int .i64 k ∧ Aside (∃ q, wr = w.drewN q) ∧ Aside (∀ j, j < k → (xs.getD j default == ys.getD j default) = true))
  case atStart => exact ⟨0, Nat.zero_le _, by omega, rfl, ⟨0, rfl⟩, fun j hj => absurd hj (Nat.not_lt_zero _)⟩
  case round =>
    obtain ⟨k, hk, hg, rfl, ⟨q, rfl⟩, A⟩ := hrel
    by_cases hlt : k < n
    · have hlti : (k : Int) < (n : Int) := by omega
      obtain ⟨b1, o1, rfl, k1⟩ := h1 k hlt
      obtain ⟨b2, o2, rfl, k2⟩ := h2 k hlt
      clear h1 h2
      generalize hX : xs.getD k default = X at k1
      generalize hY : ys.getD k default = Y at k2
      have HX' : Hid (xs.getD k default = X) := hX
      have HY' : Hid (ys.getD k default = Y) := hY
      clear hX hY
      cases hq : (X == Y) with
      | true =>
        have hne : (X != Y) = false := by simp [bne, hq]
        have HQ : Hid ((X == Y) = true) := hq
        clear hq
        go_wp2
        go_quiet (fail)
        go_wp2
        go_roundg (n - (k + 1))
        case measure => omega
        case rel =>
          refine ⟨k + 1, by omega, by omega, by go_num, ⟨_, rfl⟩, (show Aside _ from fun j hj => ?_)⟩
          by_cases e : j = k
          · subst e; rw [HX'.out, HY'.out]; exact HQ.out
          · exact A.out j (by omega)
      | false =>
        have hne : (X != Y) = true := by simp [bne, hq]
        have HQ : Hid ((X == Y) = false) := hq
        clear hq
        go_wp2
        go_quiet (fail)
        go_wp2
        go_ret
        refine ⟨?_, ⟨_, drew_drew _ _ _⟩⟩
        rw [show intsEq xs ys = false from allEq_miss _ xs ys k (by rw [HX.out]; exact hlt) (by rw [HX'.out, HY'.out]; exact HQ.out)]
        rfl
    · go_wp2
      go_ret
      refine ⟨?_, ⟨_, rfl⟩⟩
      rw [show intsEq xs ys = true from allEq_hit _ xs ys (by rw [HX.out, HY.out]) (fun j hj => A.out j (by rw [HX.out] at hj; omega))]
      rfl

theorem sameList_lens (a1 a2 : Option Addr) (c1 c2 n m : Nat) (w : World) (hnm : n ≠ m) :
    Calls Try.prog 49 #[.slice a1 n c1, .slice a2 m c2] w fun e w' => e = .returned (.bool false) ∧ ∃ q, w' = w.drewN q := by
  have hne : ((n : Int) != (m : Int)) = true := by rw [bne_iff_ne]; omega
  go_enter Try.func49, Try.ntmps49
  go_wp2
  go_ret
  exact ⟨rfl, 0, rfl⟩


/-- slices.Equal tells whether two lists of ints are the same. -/
theorem sameList_cells (a1 a2 : Option Addr) (c1 c2 n m : Nat) (xs ys : List Int) (w : World) (hn : xs.length = n) (hm : ys.length = m) (hb : n ≤ 9223372036854775807) (h1 : IntCells w a1 xs n) (h2 : IntCells w a2 ys m) :
    Calls Try.prog 49 #[.slice a1 n c1, .slice a2 m c2] w fun e w' => e = .returned (.bool (decide (xs = ys))) ∧ ∃ q, w' = w.drewN q := by
  rw [← intsEq_dec]
  subst hn hm
  by_cases h : xs.length = ys.length
  · rw [← h] at h2 ⊢
    exact sameList_walk a1 a2 c1 c2 xs.length xs ys w rfl h.symm hb h1 h2
  · rw [show intsEq xs ys = false from allEq_len _ xs ys h]
    exact sameList_lens a1 a2 c1 c2 _ _ w h

end Go.Proofs.Ytnfbcmnlloipiaa
namespace Go.Proofs.Ytnfbcmnlloipiaa
set_option linter.unusedVariables false
set_option linter.unusedSimpArgs false
open Go.RowKit Go.Lib Go.Maps Go.Sort
open Tx (MTxn info_parts RowsIn.cells RowCells TxnRow TxnsIn)

/-- Where no value is written twice, the look's source is the document's writer. -/
theorem src_head (l : List MTxn) (s : ByteArray) (N : List MN) (hu : uniqN N) (v : Int) : (writersN N s v).head? = (srcN l s N v).map (fun y => (y.1, y.2.1)) := by
  have h := hu s v
  unfold writersN at h ⊢
  unfold srcN
  rw [List.length_map] at h
  cases hf : N.filter (hitW s v) with
  | nil => rfl
  | cons x r =>
    rw [hf] at h
    have : r = [] := List.length_eq_zero_iff.1 (by simpa using h)
    subst this
    rfl
set_option maxHeartbeats 2000000 in
set_option maxRecDepth 100000 in
theorem writer_is (w : World) (v : Value) (l : List MTxn) (s : ByteArray) (x : Int) (h : TxnsIn Any w v l) (hG : Good l) (hu : uniqN (notes l l.length)) :
    Calls Try.prog 47 #[v, .string s, .int .i64 x] w fun e w' => e = .returned (.tuple #[.agg #[.int .i64 ((srcN l s (notes l l.length) x).getD noSrc).1, .int .i64 ((srcN l s (notes l l.length) x).getD noSrc).2.1], .bool (srcN l s (notes l l.length) x).isSome]) ∧ Below w.heap.size w w' := by
  have hh := src_head l s (notes l l.length) hu x
  have WR : ∀ o, Hid (Calls Try.prog 64 #[v, .string s, .int .i64 x] (w.alloc o) fun e w' => ∃ v', e = .returned v' ∧ w'.ownsRow (w.alloc o).heap.size 54 2 v' (writersN (notes l l.length) s x).length (wrC (writersN (notes l l.length) s x)) ∧ Below (w.alloc o).heap.size (w.alloc o) w') := fun o => rwriters_is _ v l s x (h.below (below_box w o)) hG.len hG.ten
  have hwl := writers_len (notes l l.length) s x
  have hnl := hG.nlen
  obtain ⟨a1, c1, rfl, _⟩ := RowsIn.cells h (by omega)
  clear h hG hu
  generalize srcN l s (notes l l.length) x = S at *
  generalize writersN (notes l l.length) s x = WS at *
  cases WS with
  | nil =>
    cases S with
    | some y => simp at hh
    | none =>
      simp only [List.length_nil, Option.getD_none, Option.isSome_none] at *
      go_enter Try.func47, Try.ntmps47
      go_wp2_with (go_at_call 64; refine (WR _).out.mono ?_; rintro e w1 ⟨v', rfl, ho, b1⟩; obtain ⟨ra, rc, hrv⟩ := own_slice ho; subst hrv; obtain ⟨hs1, y, fz, b1⟩ := box_later b1; have B1 := hid b1; have y0 := y 0; have y1 := y 1; simp only [List.getElem?_toArray, List.getElem?_cons_zero, List.getElem?_cons_succ] at y0 y1; clear b1 y ho WR)
      rw [Tx.setCell_self y0, Tx.setCell_self y1]
      exact bodyPost_ret (v := .tuple #[.agg #[.int .i64 0, .int .i64 0], .bool false]) (by simp [results, Try.results47, go_sem, y0, y1]) rfl ⟨rfl, B1.out⟩
  | cons p ps =>
    cases S with
    | none => simp at hh
    | some y =>
      obtain ⟨y1, y2, y3, y4⟩ := y
      have hp : p = (y1, y2) := by simpa using hh
      subst hp
      simp only [Option.getD_some, Option.isSome_some] at *
      have hn0 : ¬ ((y1, y2) :: ps).length = 0 := by simp
      have hnb : ((((y1, y2) :: ps).length : Int) == 0) = false := by rw [beq_eq_false_iff_ne]; simp only [List.length_cons]; omega
      have hnp : (0 : Int) < (((y1, y2) :: ps).length : Int) := by simp only [List.length_cons]; omega
      obtain ⟨n, hn⟩ : ∃ n, ((y1, y2) :: ps).length = n := ⟨_, rfl⟩
      rw [hn] at hn0 hnb hnp
      have HN := hid hn
      rw [hn] at WR
      clear hh hn
      go_enter Try.func47, Try.ntmps47
      go_wp2_with (go_at_call 64; refine (WR _).out.mono ?_; rintro e w1 ⟨v', rfl, ho, b1⟩; obtain ⟨g, rc, hrv⟩ := own_some ho hn0; subst hrv; obtain ⟨hs1, y, fz, b1⟩ := box_later b1; have B1 := hid b1; have z0 := y 0; have z1 := y 1; have e0 : w1.cell? ⟨g, 0, none⟩ = some (.int .i64 y1) := ho.cellAt 0 (by omega); have e1 : w1.cell? ⟨g, 1, none⟩ = some (.int .i64 y2) := ho.cellAt 1 (by omega); simp only [List.getElem?_toArray, List.getElem?_cons_zero, List.getElem?_cons_succ] at z0 z1; clear b1 y ho WR)
      refine bodyPost_ret (v := .tuple #[.agg #[.int .i64 y1, .int .i64 y2], .bool true]) (by simp [results, Try.results47, go_sem, z0, z1]) rfl ⟨rfl, ?_⟩
      exact (B1.out.setCell (Nat.le_refl _) _).setCell (Nat.le_refl _) _
theorem failed_is (p st f t : Int) (a : Option Addr) (n c : Nat) (w : World) : Calls Try.prog 76 #[.agg #[.int .i64 p, .int .i64 st, .int .i64 f, .int .i64 t, .slice a n c]] w fun e w' => e = .returned (.bool (failB st)) ∧ Below w.heap.size w w' := by
  by_cases h1 : st = 1
  · subst h1
    go_enter Try.func76, Try.ntmps76
    go_wp2_with fail
    go_ret
    exact ⟨rfl, below_box w _⟩
  · have h1b : (st == (1 : Int)) = false := by simpa using h1
    go_enter Try.func76, Try.ntmps76
    go_wp2_with fail
    go_ret
    exact ⟨rfl, below_box w _⟩
theorem ints_cells {S : Nat → Prop} {w : World} {a : Option Addr} {n c : Nat} {xs : List Int} (h : IntsIn S w (.slice a n c) xs) : n = xs.length ∧ n ≤ c ∧ IntCells w a xs n := by
  obtain ⟨ao, c', hv, hl, hc⟩ := h
  cases hv
  refine ⟨rfl, hl.2, fun j hj => ?_⟩
  obtain ⟨b, off, e, _, h3⟩ := hc (by omega)
  exact ⟨b, off, e, h3 j hj⟩
set_option maxHeartbeats 2000000 in
theorem begins_is {S S' : Nat → Prop} (a b : Option Addr) (c d : Nat) (xs ys : List Int) (w : World) (h : IntsIn S w (.slice a xs.length c) xs) (h' : IntsIn S' w (.slice b ys.length d) ys) (hx : xs.length ≤ 100000) (hy : ys.length ≤ 100000) : Calls Try.prog 22 #[.slice a xs.length c, .slice b ys.length d] w fun e w' => e = .returned (.bool (decide (xs.length ≤ ys.length ∧ xs = ys.take xs.length))) ∧ Below w.heap.size w w' := by
  obtain ⟨_, _, h1⟩ := ints_cells h
  obtain ⟨_, hd, h2⟩ := ints_cells h'
  by_cases hle : xs.length ≤ ys.length
  · have h3 : IntCells w b (ys.take xs.length) xs.length := fun j hj => by
      obtain ⟨bb, oo, e1, e2⟩ := h2 j (by omega)
      refine ⟨bb, oo, e1, ?_⟩
      rw [e2]
      simp [List.getD, List.getElem?_take, hj]
    have SL := hid (sameList_cells a b c d xs.length xs.length xs (ys.take xs.length) w rfl (by simp; omega) (by omega) h1 h3)
    have hlei : (xs.length : Int) ≤ ys.length := by omega
    have hdi : (xs.length : Int) ≤ d := by omega
    have e : decide (xs.length ≤ ys.length ∧ xs = ys.take xs.length) = decide (xs = ys.take xs.length) := by simp [hle]
    rw [e]
    clear h h' h1 h2 h3 e
    generalize decide (xs = ys.take xs.length) = D at *
    generalize xs.length = n at *
    generalize ys.length = m at *
    go_enter Try.func22, Try.ntmps22
    go_wp2_with (go_at_call 49; refine SL.out.mono ?_; rintro e w1 ⟨rfl, q, rfl⟩)
    go_ret
    exact ⟨rfl, ⟨rfl, rfl, rfl, Nat.le_refl _, fun _ _ => rfl⟩⟩
  · have hlei : ¬ (xs.length : Int) ≤ ys.length := by omega
    have e : decide (xs.length ≤ ys.length ∧ xs = ys.take xs.length) = false := by simp [hle]
    rw [e]
    clear h h' h1 h2 e
    generalize xs.length = n at *
    generalize ys.length = m at *
    go_enter Try.func22, Try.ntmps22
    go_wp2_with fail
    go_ret
    exact ⟨rfl, Below.refl _ _⟩
end Go.Proofs.Ytnfbcmnlloipiaa
