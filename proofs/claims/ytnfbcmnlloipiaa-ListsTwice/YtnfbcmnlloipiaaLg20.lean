/-
  The walk of ListsTwice.
-/
import Derived.Test.YtnfbcmnlloipiaaLg19
namespace Go.Proofs.Ytnfbcmnlloipiaa
set_option linter.unusedVariables false
set_option linter.unusedSimpArgs false
open Go.RowKit Go.Lib Go.Maps Go.Sort
open Tx (MTxn info_parts flatten_len flatten_get RowsIn.cells RowCells TxnRow TxnsIn TxnsOwn setCell_self cloneInts_any OpsOwn smallL cutTxn cutOp)

set_option maxHeartbeats 16000000 in
set_option maxRecDepth 100000 in
theorem ltwice_walk (tv : Value) (l0 : List MTxn) (n0 : Int) (w : World) (ht : TxnsIn Any w tv l0) (hok : ∀ t ∈ l0, ∀ o ∈ t.ops, OpOk o) (hwl : ∀ t ∈ l0, ∀ o ∈ t.ops, ∀ x ∈ o.list, (Lit.int .i64 x).wf = true) :
    Calls Try.prog 7 #[tv, .int .i64 n0] w fun e w' => e = .returned (.bool true) ∧ Below w.heap.size w w' := by
  obtain ⟨i0, hi0, hz0, hz1, hz2⟩ := info_parts Try.infoT
  have HI0 := hid hi0
  have HZ0 := hid hz0
  have HZ1 := hid hz1
  have HZ2 := hid hz2
  have HT := hid ht
  have hG0 := small_good hok hwl
  obtain ⟨L, hL⟩ : ∃ L, smallL l0 = L := ⟨_, rfl⟩
  have hlen : L.length ≤ 40 := by rw [← hL]; exact small_len l0
  rw [hL] at hG0
  have HG := hid hG0
  have HL := hid hL
  have hli : (L.length : Int) ≤ 40 := by omega
  clear hi0 hz0 hz1 hz2 ht hok hwl hL hG0
  go_enter Try.func7, Try.ntmps7
  go_upto_region 2 with (go_at_call 9; refine (Tx.small_any _ l0 _ HT.out).mono ?_; rintro e w3 ⟨v1, rfl, h1, b1⟩; rw [show smallL l0 = L from HL.out] at h1; have T3 : Hid (TxnsIn Any w3 v1 L) := txns_ins h1; have B3 := hid b1; clear h1 b1)
  obtain ⟨a1, c1, rfl, hc1⟩ := id T3.out
  clear hc1
  by_cases hl0 : L.length = 0
  · have hl0i : ((L.length : Int) == 0) = true := by simp [hl0]
    go_wp2_with fail
    go_ret
    exact ⟨rfl, B3.out⟩
  · have hl1 : ((L.length : Int) == 0) = false := by rw [beq_eq_false_iff_ne]; omega
    have hl2 : ¬ (L.length : Int) = 0 := by omega
    obtain ⟨I, hI, hD⟩ := u64_mod n0 L.length (by omega) (by omega)
    have hIi : (I : Int) < L.length := by omega
    obtain ⟨ao, cc, hao, hbytes, hrow⟩ := RowsIn.cells T3.out (by omega)
    obtain ⟨b, o, cs, rfl, hbl, _, ⟨ov, hcs, hops⟩, hcell⟩ := hrow I hI
    subst hcs
    have e1 : a1 = some ⟨b, o, none⟩ := by injection hao
    subst e1
    obtain ⟨oa, oc, hov, _⟩ := id hops
    subst hov
    have d0 := hcell 0 _ rfl
    have d1 := hcell 1 _ rfl
    have d2 := hcell 2 _ rfl
    have d3 := hcell 3 _ rfl
    have d4 := hcell 4 _ rfl
    rw [Nat.add_zero] at d0
    have HOP := hid hops
    have hten : (L.getD I default).ops.length ≤ 10 := HG.out.ten _ (getD_mem L I hI)
    have TW := hid (twice_uniq L I hI)
    have HX : Hid (L.getD I default ∈ L) := getD_mem L I hI
    clear hcell hrow hao hops hbytes
    generalize L.getD I default = X at *
    obtain ⟨xp, xs, xf, xt, xo⟩ := X
    simp only [MTxn.proc, MTxn.state, MTxn.since, MTxn.till, MTxn.ops] at d0 d1 d2 d3 d4 HOP hten TW
    go_upto_region 5 with fail
    obtain ⟨w4, hW⟩ : ∃ W, w3.alloc (.cells #[.int .i64 xp, .int .i64 xs, .int .i64 xf, .int .i64 xt, .slice oa xo.length oc] 47) = W := ⟨_, rfl⟩
    obtain ⟨xb, hxb⟩ : ∃ xb, w3.heap.size = xb := ⟨_, rfl⟩
    have BW : Hid (Below w3.heap.size w3 w4) := by rw [← hW]; exact below_box w3 _
    have q0 : w4.cell? ⟨xb, 0, none⟩ = some (.int .i64 xp) := by rw [← hW, ← hxb]; simp
    have q1 : w4.cell? ⟨xb, 1, none⟩ = some (.int .i64 xs) := by rw [← hW, ← hxb]; simp
    have q2 : w4.cell? ⟨xb, 2, none⟩ = some (.int .i64 xf) := by rw [← hW, ← hxb]; simp
    have q3 : w4.cell? ⟨xb, 3, none⟩ = some (.int .i64 xt) := by rw [← hW, ← hxb]; simp
    have q4 : w4.cell? ⟨xb, 4, none⟩ = some (.slice oa xo.length oc) := by rw [← hW, ← hxb]; simp
    have hw4 : xb < w4.heap.size := by rw [← hW, ← hxb, alloc_size]; omega
    rw [hxb, hW]
    have B5 : Hid (Below w.heap.size w w4) := B3.out.trans (BW.out.mono B3.out.size)
    have T5 := hid (T3.out.below BW.out)
    have O5 : Hid (OpsIn Any w4 (.slice oa xo.length oc) xo) := HOP.out.below BW.out
    have HG2 : Hid (Good (L ++ [(xp, xs, xf, xt, xo)])) := HG.out.more HX.out (by omega)
    clear hW hxb BW B3 T3 HOP d0 d1 d2 d3 d4
    have CT1 := hid (cloneT_any (α := MTxn) (R := TxnRow Any w4.drew) _ L w4.drew (T5.out.below (Below.refl _ _).drew) txnRow_one)
    have CT2 := hid (cloneT_any (α := MTxn) (R := TxnRow Any ((w4.alloc (.cells #[.int .i64 xp, .int .i64 xs, .int .i64 xf, .int .i64 xt, .slice oa xo.length oc] 47)).drew)) _ L ((w4.alloc (.cells #[.int .i64 xp, .int .i64 xs, .int .i64 xf, .int .i64 xt, .slice oa xo.length oc] 47)).drew) (T5.out.below (below_box w4 _).drew) txnRow_one)
    have hw4b : xb < ((w4.alloc (.cells #[.int .i64 xp, .int .i64 xs, .int .i64 xf, .int .i64 xt, .slice oa xo.length oc] 47)).drew).heap.size := by show xb < (w4.alloc _).heap.size; rw [alloc_size]; omega
    have hwb2 : w4.heap.size < ((w4.alloc (.cells #[.int .i64 xp, .int .i64 xs, .int .i64 xf, .int .i64 xt, .slice oa xo.length oc] 47)).drew).heap.size := by show w4.heap.size < (w4.alloc _).heap.size; rw [alloc_size]; omega
    have q0b : ((w4.alloc (.cells #[.int .i64 xp, .int .i64 xs, .int .i64 xf, .int .i64 xt, .slice oa xo.length oc] 47)).drew).cell? ⟨xb, 0, none⟩ = some (.int .i64 xp) := ((below_box w4 _).drew.cell (p := ⟨xb, 0, none⟩) hw4).trans q0
    have q1b : ((w4.alloc (.cells #[.int .i64 xp, .int .i64 xs, .int .i64 xf, .int .i64 xt, .slice oa xo.length oc] 47)).drew).cell? ⟨xb, 1, none⟩ = some (.int .i64 xs) := ((below_box w4 _).drew.cell (p := ⟨xb, 1, none⟩) hw4).trans q1
    have q2b : ((w4.alloc (.cells #[.int .i64 xp, .int .i64 xs, .int .i64 xf, .int .i64 xt, .slice oa xo.length oc] 47)).drew).cell? ⟨xb, 2, none⟩ = some (.int .i64 xf) := ((below_box w4 _).drew.cell (p := ⟨xb, 2, none⟩) hw4).trans q2
    have q3b : ((w4.alloc (.cells #[.int .i64 xp, .int .i64 xs, .int .i64 xf, .int .i64 xt, .slice oa xo.length oc] 47)).drew).cell? ⟨xb, 3, none⟩ = some (.int .i64 xt) := ((below_box w4 _).drew.cell (p := ⟨xb, 3, none⟩) hw4).trans q3
    have q4b : ((w4.alloc (.cells #[.int .i64 xp, .int .i64 xs, .int .i64 xf, .int .i64 xt, .slice oa xo.length oc] 47)).drew).cell? ⟨xb, 4, none⟩ = some (.slice oa xo.length oc) := ((below_box w4 _).drew.cell (p := ⟨xb, 4, none⟩) hw4).trans q4
    have XN : Hid (∀ u ∈ ([.int .i64 xp, .int .i64 xs, .int .i64 xf, .int .i64 xt, .slice oa xo.length oc] : List Value), u.oneCell' = true) := by
      intro u hu
      simp only [List.mem_cons, List.not_mem_nil, or_false] at hu
      rcases hu with rfl | rfl | rfl | rfl | rfl <;> rfl
    go_region_law (first
      | (refine step_append_lies (wC.alloc (.cells #[.int .i64 xp, .int .i64 xs, .int .i64 xf, .int .i64 xt, .slice oa xo.length oc] 47)) rfl (.tmp 28) (.tmp 30) 22 rfl w4.drew.heap.size 47 i0 _ 5 56 Try.underlying22 HI0.out HZ0.out HZ1.out HZ2.out rfl (by decide) (.slice ka L.length kc) L.length rows.flatten (by simp [Act.eval, Act.put]) (own_same R4.out (fun y hy => by rw [alloc_at, if_neg (by have := (own_block R4.out hy).2.1; omega)])) ⟨wC.heap.size, 0, none⟩ 1 1 [.int .i64 xp, .int .i64 xs, .int .i64 xf, .int .i64 xt, .slice oa xo.length oc] (by simp [Act.eval, Act.put]) rfl (World.news_of_block (cs := #[.int .i64 xp, .int .i64 xs, .int .i64 xf, .int .i64 xt, .slice oa xo.length oc]) (t := 47) (fr := (0, 0)) (heap_alloc_new wC _)) XN.out (by decide) (by unfold maxLen; omega) (by omega) (by have h9 := BC.out.size; rw [alloc_size]; omega) (wC.heap.size + 1) (by simp) ?_; intro g cap w6 hown6 hgrow hat hglt; have B6 : Hid (Below w4.drew.heap.size w4.drew w6) := ((BC.out.alloc BC.out.size _).grown hgrow (by have h9 := BC.out.size; rw [alloc_size]; omega) (fun y hy => (own_block R4.out hy).1)); have T6 : Hid (TxnsIn Any w6 (.slice (some ⟨g, 0, none⟩) (L.length + 1) cap) (L ++ [(xp, xs, xf, xt, xo)])) := more_txns R1.out R2.out R3.out (O5.out.below (Below.refl _ _).drew) B6.out (by omega) hown6; have B7 : Hid (Below w4.heap.size w4 w6) := (Below.refl _ _).drew.trans B6.out; clear hown6 hgrow hat hglt)
      | (refine step_append_lies wC rfl (.tmp 28) (.tmp 30) 22 rfl ((w4.alloc (.cells #[.int .i64 xp, .int .i64 xs, .int .i64 xf, .int .i64 xt, .slice oa xo.length oc] 47)).drew).heap.size 47 i0 _ 5 56 Try.underlying22 HI0.out HZ0.out HZ1.out HZ2.out rfl (by decide) (.slice ka L.length kc) L.length rows.flatten (by simp [Act.eval, Act.put]) R4.out ⟨w4.heap.size, 0, none⟩ 1 1 [.int .i64 xp, .int .i64 xs, .int .i64 xf, .int .i64 xt, .slice oa xo.length oc] (by simp [Act.eval, Act.put]) rfl NB.out XN.out (by decide) (by unfold maxLen; omega) (by omega) BC.out.size wC.heap.size rfl ?_; intro g cap w6 hown6 hgrow hat hglt; have B6 : Hid (Below ((w4.alloc (.cells #[.int .i64 xp, .int .i64 xs, .int .i64 xf, .int .i64 xt, .slice oa xo.length oc] 47)).drew).heap.size ((w4.alloc (.cells #[.int .i64 xp, .int .i64 xs, .int .i64 xf, .int .i64 xt, .slice oa xo.length oc] 47)).drew) w6) := (BC.out.grown hgrow BC.out.size (fun y hy => (own_block R4.out hy).1)); have T6 : Hid (TxnsIn Any w6 (.slice (some ⟨g, 0, none⟩) (L.length + 1) cap) (L ++ [(xp, xs, xf, xt, xo)])) := more_txns R1.out R2.out R3.out (O5.out.below (below_box _ _).drew) B6.out (by omega) hown6; have B7 : Hid (Below w4.heap.size w4 w6) := (below_box w4 _).drew.trans (B6.out.mono (by show w4.heap.size ≤ (w4.alloc _).heap.size; rw [alloc_size]; omega)); clear hown6 hgrow hat hglt)
      | (rw [if_pos (by simp [Region.wanted])]; go_simp; refine CT1.out.mono ?_; rintro e wC ⟨vC, rfl, ⟨rows, r1, r2, r3, r4⟩, bC⟩; obtain ⟨ka, kc, rfl⟩ := own_slice r4; have R1 := hid r1; have R2 := hid r2; have R3 := hid r3; have R4 := hid r4; have BC := hid bC; have n0 := (bC.cell (p := ⟨xb, 0, none⟩) hw4).trans q0; have n1 := (bC.cell (p := ⟨xb, 1, none⟩) hw4).trans q1; have n2 := (bC.cell (p := ⟨xb, 2, none⟩) hw4).trans q2; have n3 := (bC.cell (p := ⟨xb, 3, none⟩) hw4).trans q3; have n4 := (bC.cell (p := ⟨xb, 4, none⟩) hw4).trans q4; clear r1 r2 r3 r4 bC)
      | (rw [if_pos (by simp [Region.wanted])]; go_simp; refine CT2.out.mono ?_; rintro e wC ⟨vC, rfl, ⟨rows, r1, r2, r3, r4⟩, bC⟩; obtain ⟨ka, kc, rfl⟩ := own_slice r4; have R1 := hid r1; have R2 := hid r2; have R3 := hid r3; have R4 := hid r4; have BC := hid bC; have n0 := (bC.cell (p := ⟨xb, 0, none⟩) hw4b).trans q0b; have n1 := (bC.cell (p := ⟨xb, 1, none⟩) hw4b).trans q1b; have n2 := (bC.cell (p := ⟨xb, 2, none⟩) hw4b).trans q2b; have n3 := (bC.cell (p := ⟨xb, 3, none⟩) hw4b).trans q3b; have n4 := (bC.cell (p := ⟨xb, 4, none⟩) hw4b).trans q4b; have NB : Hid (∀ j u, ([.int .i64 xp, .int .i64 xs, .int .i64 xf, .int .i64 xt, .slice oa xo.length oc] : List Value)[j]? = some u → wC.cell? ((⟨w4.heap.size, 0, none⟩ : Addr).add j) = some u) := World.news_of_block (cs := #[.int .i64 xp, .int .i64 xs, .int .i64 xf, .int .i64 xt, .slice oa xo.length oc]) (t := 47) (fr := (0, 0)) (BC.out.block w4.heap.size hwb2 |>.trans (heap_alloc_new w4 _)); clear r1 r2 r3 r4 bC))

    all_goals
      have hL2 : (L ++ [(xp, xs, xf, xt, xo)]).length = L.length + 1 := by simp
      obtain ⟨L2, hL2d⟩ : ∃ L2, L ++ [(xp, xs, xf, xt, xo)] = L2 := ⟨_, rfl⟩
      rw [hL2d] at hL2 HG2 TW
      have HL2 := hid hL2
      clear hL2
      have T6b : Hid (TxnsIn Any w6 (.slice (some ⟨g, 0, none⟩) (L.length + 1) cap) L2) := by rw [← hL2d]; exact T6.out
      have NW := hid (tnew_is w6 _ L2 T6b.out HG2.out.len HG2.out.ten HG2.out.ok)
      have B6w : Hid (Below w.heap.size w w6) := B5.out.trans (B7.out.mono B5.out.size)
      have O6 : Hid (OpsIn Any w6 (.slice oa xo.length oc) xo) := O5.out.below B7.out
      have r4 : w6.cell? ⟨xb, 4, none⟩ = some (.slice oa xo.length oc) := (B7.out.cell (p := ⟨xb, 4, none⟩) hw4).trans q4
      have hw6 : xb < w6.heap.size := Nat.lt_of_lt_of_le hw4 B7.out.size
      clear T6 hL2d B6 B7 q0 q1 q2 q3 q4 T5 O5
      go_upto_region 7 with (go_at_call 10; refine NW.out.mono ?_; rintro e w8 ⟨tb, rfl, hm8, b8⟩; have M8 := hid hm8; have B8 := hid b8; clear hm8 b8)
      have s4 : w8.cell? ⟨xb, 4, none⟩ = some (.slice oa xo.length oc) := (B8.out.cell (p := ⟨xb, 4, none⟩) hw6).trans r4
      have CF := hid (contFO_is w8 _ xo (O6.out.below B8.out) (by omega))
      obtain ⟨wr0, hwr0⟩ : ∃ wr0, xo.any (fun o => isW o.kind) = wr0 := ⟨_, rfl⟩
      rw [hwr0] at TW CF
      have T8 := hid (T6b.out.below B8.out)
      have B8w : Hid (Below w.heap.size w w8) := B6w.out.trans (B8.out.mono B6w.out.size)
      clear hwr0 r4 hw6 NW O6 T6b B8 B6w
      go_wp2_with (first
        | (go_at_call 27; refine CF.out.mono ?_; rintro e w9 ⟨rfl, b9⟩; have T9 := hid (T8.out.below b9); have M9 : Hid (Made w6.heap.size w9 tb L2) := M8.out.later b9; have B9 : Hid (Below w.heap.size w w9) := B8w.out.trans (b9.mono B8w.out.size); clear b9)
        | (go_at_call 11; refine (rkeys_is w9 _ L2 T9.out HG2.out.len HG2.out.ten).mono ?_; rintro e w10 ⟨kv, rfl, hsr, b10⟩; obtain ⟨ka, kc, hkv⟩ := own_slice hsr; subst hkv; have SR := hid hsr; have M10 : Hid (Made w6.heap.size w10 tb L2) := M9.out.later b10; have B10 : Hid (Below w.heap.size w w10) := B9.out.trans (b10.mono B9.out.size); clear hsr b10))
      clear CF M8 T8 B8w M9 T9 B9 s4
      have hkl : (keysN (notes L2 L2.length) []).length ≤ 10000 := Nat.le_trans (keys_len _) HG2.out.nlen
      have CO : Hid (∀ W, Below w10.heap.size w10 W → Calls Try.prog 21 #[.pointer (some ⟨tb, 0, none⟩)] W fun e w' => e = .returned (.int .i64 (L2.length : Int)) ∧ W = w') := fun W hb => count_is _ W tb L2 (M10.out.later hb)
      rw [HL2.out] at CO
      obtain ⟨KN, hKN⟩ : ∃ KN, (keysN (notes L2 L2.length) []).length = KN := ⟨_, rfl⟩
      have KEY : Hid (∀ q, q < KN → ∃ gk s, ka = some ⟨gk, 0, none⟩ ∧ gk < w10.heap.size ∧ w10.cell? ⟨gk, q, none⟩ = some (.string s) ∧ s.size ≤ maxLen) := fun q hq => by
        obtain ⟨gk, c', hv⟩ := own_some SR.out (by omega)
        cases hv
        obtain ⟨s, h1, h2, _⟩ := key_at HG2.out SR.out q (by omega)
        exact ⟨gk, s, rfl, World.block_lt_of_cell? _ _ h1, h1, h2⟩
      rw [hKN] at hkl
      rw [show (keysN (notes L2 L2.length) []).length = KN from hKN]
      have hkli : (KN : Int) ≤ 10000 := by omega
      clear hKN SR
      go_loopg [9, 10, 11, 40] KN (fun gg _ _ _ i wr => ∃ k : Nat, k ≤ KN ∧ KN - k ≤ gg ∧ i = .int .i64 k ∧ Aside (Below w10.heap.size w10 wr))
      case atStart => exact ⟨0, Nat.zero_le _, by omega, rfl, Below.refl _ _⟩
      case round =>
        obtain ⟨k, hk, hgk, rfl, BR⟩ := hrel
        by_cases hlt : k < KN
        · have hlti : (k : Int) < KN := by omega
          obtain ⟨gk, s, rfl, hgl, hc, hss⟩ := KEY.out k hlt
          have cv := (BR.out.cell (p := ⟨gk, k, none⟩) hgl).trans hc
          have MR : Hid (Made w6.heap.size wr tb L2) := M10.out.later BR.out
          have HSS := hid hss
          clear hc hss
          cases wr0 with
          | true =>
            have HN : Hid (¬ tellN L2 s) := fun c => absurd (TW.out.1 c.2).1 (by decide)
            have UT : Hid (Untold (.pointer (some ⟨tb, 0, none⟩)) s wr) := fun W hb => look_un _ tb L2 s W (MR.out.later hb) HSS.out HN.out
            go_wp2_with (first
              | (go_at_call 12; refine (trace_un _ s wr UT.out.untrue).mono ?_; rintro e w11 ⟨rfl, b11⟩; have U1 := hid (UT.out.later b11); have B11 := hid b11; clear b11)
              | (go_at_call 15; refine (anom_un _ s w11 U1.out).mono ?_; rintro e w12 ⟨rfl, b12⟩; have U2 := hid (U1.out.later b12); have B12 := hid (B11.out.trans (b12.mono B11.out.size)); clear b12)
              | (go_at_call 19; refine (edges_un _ s w12 U2.out.untrue).mono ?_; rintro e w13 ⟨rfl, b13⟩; have B13 := hid (B12.out.trans (b13.mono B12.out.size)); clear b13))
            go_roundg (KN - (k + 1))
            case measure => omega
            case rel => exact ⟨k + 1, by omega, by omega, by go_num, BR.out.trans (B13.out.mono BR.out.size)⟩
          | false =>
            by_cases hok2 : okN L2 s
            · have TR := hid (trace_yes _ tb L2 s wr MR.out HSS.out HG2.out hok2)
              clear hok2
              go_wp2_with (go_at_call 12; refine TR.out.mono ?_; rintro e w11 ⟨ta, tc, rfl, _, b11⟩; have B11 := hid b11; clear b11)
              go_roundg (KN - (k + 1))
              case measure => omega
              case rel => exact ⟨k + 1, by omega, by omega, by go_num, BR.out.trans (B11.out.mono BR.out.size)⟩
            · have UT : Hid (Untrue (.pointer (some ⟨tb, 0, none⟩)) s wr) := trusted_not _ tb L2 s wr MR.out HSS.out HG2.out hok2
              clear hok2
              go_wp2_with (go_at_call 12; refine (trace_un _ s wr UT.out).mono ?_; rintro e w11 ⟨rfl, b11⟩; have B11 := hid b11; clear b11)
              go_roundg (KN - (k + 1))
              case measure => omega
              case rel => exact ⟨k + 1, by omega, by omega, by go_num, BR.out.trans (B11.out.mono BR.out.size)⟩
        · have hke : k = KN := by omega
          have hlti : ¬ (k : Int) < KN := by omega
          have hce : (((L.length : Int) + 1) == ((L.length : Int) + 1)) = true := by simp
          have hcast : ((L.length + 1 : Nat) : Int) = (L.length : Int) + 1 := by omega
          rw [hcast] at CO
          go_wp2_with (go_at_call 21; refine (CO.out _ BR.out).mono ?_; rintro e w11 ⟨rfl, rfl⟩)
          go_ret
          exact ⟨rfl, B10.out.trans (BR.out.mono B10.out.size)⟩
end Go.Proofs.Ytnfbcmnlloipiaa
