/-
  The walk of ListsTwice.
  Of a store that does one transaction at a time nothing is wrong, and all dependencies lead on: the walk of the law.
  From a reading of transactions as data to the transactions in memory.
-/
import Derived.Test.YtnfbcmnlloipiaaS16
import Derived.Test.YtnfbcmnlloipiaaS17
import Derived.Test.YtnfbcmnlloipiaaS1
import Derived.Deep.Slices
import Derived.OpenShut
import Derived.SizedLaws
namespace Go.Proofs.Ytnfbcmnlloipiaa
set_option linter.unusedVariables false
set_option linter.unusedSimpArgs false
open Go.RowKit Go.Lib Go.Maps Go.Sort
open Tx (MTxn info_parts flatten_len flatten_get RowsIn.cells RowCells TxnRow TxnsIn TxnsOwn setCell_self cloneInts_any OpsOwn smallL cutTxn cutOp)

set_option maxHeartbeats 16000000 in
set_option maxRecDepth 100000 in
theorem ltwice_walk (tv : Value) (l0 : List MTxn) (n0 : Int) (w : World) (ht : TxnsIn Any w tv l0) (hok : ∀ t ∈ l0, ∀ o ∈ t.ops, OpOk o) (hwl : ∀ t ∈ l0, ∀ o ∈ t.ops, ∀ x ∈ o.list, (Lit.int .i64 x).wf = true) :
    Calls Try.prog 7 #[tv, .int .i64 n0] w fun e w' => e = .returned (.bool true) ∧ Below w.heap.size w w' := by
  obtain ⟨i0, hi0, hz0, hz1, hz2⟩ := info_parts Try.infoT
  have HI0 := hid hi0
  have HZ0 := hid hz0
  have HZ1 := hid hz1
  have HZ2 := hid hz2
  have HT := hid ht
  have hG0 := small_good hok hwl
  obtain ⟨L, hL⟩ : ∃ L, smallL l0 = L := ⟨_, rfl⟩
  have hlen : L.length ≤ 40 := by rw [← hL]; exact small_len l0
  rw [hL] at hG0
  have HG := hid hG0
  have HL := hid hL
  have hli : (L.length : Int) ≤ 40 := by omega
  clear hi0 hz0 hz1 hz2 ht hok hwl hL hG0
  go_enter Try.func7, Try.ntmps7
  go_upto_region 2 with (go_at_call 9; refine (Tx.small_any _ l0 _ HT.out).mono ?_; rintro e w3 ⟨v1, rfl, h1, b1⟩; rw [show smallL l0 = L from HL.out] at h1; have T3 : Hid (TxnsIn Any w3 v1 L) := txns_ins h1; have B3 := hid b1; clear h1 b1)
  obtain ⟨a1, c1, rfl, hc1⟩ := id T3.out
  clear hc1
  by_cases hl0 : L.length = 0
  · have hl0i : ((L.length : Int) == 0) = true := by simp [hl0]
    go_wp2_with fail
    go_ret
    exact ⟨rfl, B3.out⟩
  · have hl1 : ((L.length : Int) == 0) = false := by rw [beq_eq_false_iff_ne]; omega
    have hl2 : ¬ (L.length : Int) = 0 := by omega
    obtain ⟨I, hI, hD⟩ := u64_mod n0 L.length (by omega) (by omega)
    have hIi : (I : Int) < L.length := by omega
    obtain ⟨ao, cc, hao, hbytes, hrow⟩ := RowsIn.cells T3.out (by omega)
    obtain ⟨b, o, cs, rfl, hbl, _, ⟨ov, hcs, hops⟩, hcell⟩ := hrow I hI
    subst hcs
    have e1 : a1 = some ⟨b, o, none⟩ := by injection hao
    subst e1
    obtain ⟨oa, oc, hov, _⟩ := id hops
    subst hov
    have d0 := hcell 0 _ rfl
    have d1 := hcell 1 _ rfl
    have d2 := hcell 2 _ rfl
    have d3 := hcell 3 _ rfl
    have d4 := hcell 4 _ rfl
    rw [Nat.add_zero] at d0
    have HOP := hid hops
    have hten : (L.getD I default).ops.length ≤ 10 := HG.out.ten _ (getD_mem L I hI)
    have TW := hid (twice_uniq L I hI)
    have HX : Hid (L.getD I default ∈ L) := getD_mem L I hI
    clear hcell hrow hao hops hbytes
    generalize L.getD I default = X at *
    obtain ⟨xp, xs, xf, xt, xo⟩ := X
    simp only [MTxn.proc, MTxn.state, MTxn.since, MTxn.till, MTxn.ops] at d0 d1 d2 d3 d4 HOP hten TW
    go_upto_region 5 with fail
    obtain ⟨w4, hW⟩ : ∃ W, w3.alloc (.cells #[.int .i64 xp, .int .i64 xs, .int .i64 xf, .int .i64 xt, .slice oa xo.length oc] 47) = W := ⟨_, rfl⟩
    obtain ⟨xb, hxb⟩ : ∃ xb, w3.heap.size = xb := ⟨_, rfl⟩
    have BW : Hid (Below w3.heap.size w3 w4) := by rw [← hW]; exact below_box w3 _
    have q0 : w4.cell? ⟨xb, 0, none⟩ = some (.int .i64 xp) := by rw [← hW, ← hxb]; simp
    have q1 : w4.cell? ⟨xb, 1, none⟩ = some (.int .i64 xs) := by rw [← hW, ← hxb]; simp
    have q2 : w4.cell? ⟨xb, 2, none⟩ = some (.int .i64 xf) := by rw [← hW, ← hxb]; simp
    have q3 : w4.cell? ⟨xb, 3, none⟩ = some (.int .i64 xt) := by rw [← hW, ← hxb]; simp
    have q4 : w4.cell? ⟨xb, 4, none⟩ = some (.slice oa xo.length oc) := by rw [← hW, ← hxb]; simp
    have hw4 : xb < w4.heap.size := by rw [← hW, ← hxb, alloc_size]; omega
    rw [hxb, hW]
    have B5 : Hid (Below w.heap.size w w4) := B3.out.trans (BW.out.mono B3.out.size)
    have T5 := hid (T3.out.below BW.out)
    have O5 : Hid (OpsIn Any w4 (.slice oa xo.length oc) xo) := HOP.out.below BW.out
    have HG2 : Hid (Good (L ++ [(xp, xs, xf, xt, xo)])) := HG.out.more HX.out (by omega)
    clear hW hxb BW B3 T3 HOP d0 d1 d2 d3 d4
    have CT1 := hid (cloneT_any (α := MTxn) (R := TxnRow Any w4.drew) _ L w4.drew (T5.out.below (Below.refl _ _).drew) txnRow_one)
    have CT2 := hid (cloneT_any (α := MTxn) (R := TxnRow Any ((w4.alloc (.cells #[.int .i64 xp, .int .i64 xs, .int .i64 xf, .int .i64 xt, .slice oa xo.length oc] 47)).drew)) _ L ((w4.alloc (.cells #[.int .i64 xp, .int .i64 xs, .int .i64 xf, .int .i64 xt, .slice oa xo.length oc] 47)).drew) (T5.out.below (below_box w4 _).drew) txnRow_one)
    have hw4b : xb < ((w4.alloc (.cells #[.int .i64 xp, .int .i64 xs, .int .i64 xf, .int .i64 xt, .slice oa xo.length oc] 47)).drew).heap.size := by show xb < (w4.alloc _).heap.size; rw [alloc_size]; omega
    have hwb2 : w4.heap.size < ((w4.alloc (.cells #[.int .i64 xp, .int .i64 xs, .int .i64 xf, .int .i64 xt, .slice oa xo.length oc] 47)).drew).heap.size := by show w4.heap.size < (w4.alloc _).heap.size; rw [alloc_size]; omega
    have q0b : ((w4.alloc (.cells #[.int .i64 xp, .int .i64 xs, .int .i64 xf, .int .i64 xt, .slice oa xo.length oc] 47)).drew).cell? ⟨xb, 0, none⟩ = some (.int .i64 xp) := ((below_box w4 _).drew.cell (p := ⟨xb, 0, none⟩) hw4).trans q0
    have q1b : ((w4.alloc (.cells #[.int .i64 xp, .int .i64 xs, .int .i64 xf, .int .i64 xt, .slice oa xo.length oc] 47)).drew).cell? ⟨xb, 1, none⟩ = some (.int .i64 xs) := ((below_box w4 _).drew.cell (p := ⟨xb, 1, none⟩) hw4).trans q1
    have q2b : ((w4.alloc (.cells #[.int .i64 xp, .int .i64 xs, .int .i64 xf, .int .i64 xt, .slice oa xo.length oc] 47)).drew).cell? ⟨xb, 2, none⟩ = some (.int .i64 xf) := ((below_box w4 _).drew.cell (p := ⟨xb, 2, none⟩) hw4).trans q2
    have q3b : ((w4.alloc (.cells #[.int .i64 xp, .int .i64 xs, .int .i64 xf, .int .i64 xt, .slice oa xo.length oc] 47)).drew).cell? ⟨xb, 3, none⟩ = some (.int .i64 xt) := ((below_box w4 _).drew.cell (p := ⟨xb, 3, none⟩) hw4).trans q3
    have q4b : ((w4.alloc (.cells #[.int .i64 xp, .int .i64 xs, .int .i64 xf, .int .i64 xt, .slice oa xo.length oc] 47)).drew).cell? ⟨xb, 4, none⟩ = some (.slice oa xo.length oc) := ((below_box w4 _).drew.cell (p := ⟨xb, 4, none⟩) hw4).trans q4
    have XN : Hid (∀ u ∈ ([.int .i64 xp, .int .i64 xs, .int .i64 xf, .int .i64 xt, .slice oa xo.length oc] : List Value), u.oneCell' = true) := by
      intro u hu
      simp only [List.mem_cons, List.not_mem_nil, or_false] at hu
      rcases hu with rfl | rfl | rfl | rfl | rfl <;> rfl
    go_region_law (first
      | (refine step_append_lies (wC.alloc (.cells #[.int .i64 xp, .int .i64 xs, .int .i64 xf, .int .i64 xt, .slice oa xo.length oc] 47)) rfl (.tmp 28) (.tmp 30) 22 rfl w4.drew.heap.size 47 i0 _ 5 56 Try.underlying22 HI0.out HZ0.out HZ1.out HZ2.out rfl (by decide) (.slice ka L.length kc) L.length rows.flatten (by simp [Act.eval, Act.put]) (own_same R4.out (fun y hy => by rw [alloc_at, if_neg (by have := (own_block R4.out hy).2.1; omega)])) ⟨wC.heap.size, 0, none⟩ 1 1 [.int .i64 xp, .int .i64 xs, .int .i64 xf, .int .i64 xt, .slice oa xo.length oc] (by simp [Act.eval, Act.put]) rfl (World.news_of_block (cs := #[.int .i64 xp, .int .i64 xs, .int .i64 xf, .int .i64 xt, .slice oa xo.length oc]) (t := 47) (fr := (0, 0)) (heap_alloc_new wC _)) XN.out (by decide) (by unfold maxLen; omega) (by omega) (by have h9 := BC.out.size; rw [alloc_size]; omega) (wC.heap.size + 1) (by simp) ?_; intro g cap w6 hown6 hgrow hat hglt; have B6 : Hid (Below w4.drew.heap.size w4.drew w6) := ((BC.out.alloc BC.out.size _).grown hgrow (by have h9 := BC.out.size; rw [alloc_size]; omega) (fun y hy => (own_block R4.out hy).1)); have T6 : Hid (TxnsIn Any w6 (.slice (some ⟨g, 0, none⟩) (L.length + 1) cap) (L ++ [(xp, xs, xf, xt, xo)])) := more_txns R1.out R2.out R3.out (O5.out.below (Below.refl _ _).drew) B6.out (by omega) hown6; have B7 : Hid (Below w4.heap.size w4 w6) := (Below.refl _ _).drew.trans B6.out; clear hown6 hgrow hat hglt)
      | (refine step_append_lies wC rfl (.tmp 28) (.tmp 30) 22 rfl ((w4.alloc (.cells #[.int .i64 xp, .int .i64 xs, .int .i64 xf, .int .i64 xt, .slice oa xo.length oc] 47)).drew).heap.size 47 i0 _ 5 56 Try.underlying22 HI0.out HZ0.out HZ1.out HZ2.out rfl (by decide) (.slice ka L.length kc) L.length rows.flatten (by simp [Act.eval, Act.put]) R4.out ⟨w4.heap.size, 0, none⟩ 1 1 [.int .i64 xp, .int .i64 xs, .int .i64 xf, .int .i64 xt, .slice oa xo.length oc] (by simp [Act.eval, Act.put]) rfl NB.out XN.out (by decide) (by unfold maxLen; omega) (by omega) BC.out.size wC.heap.size rfl ?_; intro g cap w6 hown6 hgrow hat hglt; have B6 : Hid (Below ((w4.alloc (.cells #[.int .i64 xp, .int .i64 xs, .int .i64 xf, .int .i64 xt, .slice oa xo.length oc] 47)).drew).heap.size ((w4.alloc (.cells #[.int .i64 xp, .int .i64 xs, .int .i64 xf, .int .i64 xt, .slice oa xo.length oc] 47)).drew) w6) := (BC.out.grown hgrow BC.out.size (fun y hy => (own_block R4.out hy).1)); have T6 : Hid (TxnsIn Any w6 (.slice (some ⟨g, 0, none⟩) (L.length + 1) cap) (L ++ [(xp, xs, xf, xt, xo)])) := more_txns R1.out R2.out R3.out (O5.out.below (below_box _ _).drew) B6.out (by omega) hown6; have B7 : Hid (Below w4.heap.size w4 w6) := (below_box w4 _).drew.trans (B6.out.mono (by show w4.heap.size ≤ (w4.alloc _).heap.size; rw [alloc_size]; omega)); clear hown6 hgrow hat hglt)
      | (rw [if_pos (by simp [Region.wanted])]; go_simp; refine CT1.out.mono ?_; rintro e wC ⟨vC, rfl, ⟨rows, r1, r2, r3, r4⟩, bC⟩; obtain ⟨ka, kc, rfl⟩ := own_slice r4; have R1 := hid r1; have R2 := hid r2; have R3 := hid r3; have R4 := hid r4; have BC := hid bC; have n0 := (bC.cell (p := ⟨xb, 0, none⟩) hw4).trans q0; have n1 := (bC.cell (p := ⟨xb, 1, none⟩) hw4).trans q1; have n2 := (bC.cell (p := ⟨xb, 2, none⟩) hw4).trans q2; have n3 := (bC.cell (p := ⟨xb, 3, none⟩) hw4).trans q3; have n4 := (bC.cell (p := ⟨xb, 4, none⟩) hw4).trans q4; clear r1 r2 r3 r4 bC)
      | (rw [if_pos (by simp [Region.wanted])]; go_simp; refine CT2.out.mono ?_; rintro e wC ⟨vC, rfl, ⟨rows, r1, r2, r3, r4⟩, bC⟩; obtain ⟨ka, kc, rfl⟩ := own_slice r4; have R1 := hid r1; have R2 := hid r2; have R3 := hid r3; have R4 := hid r4; have BC := hid bC; have n0 := (bC.cell (p := ⟨xb, 0, none⟩) hw4b).trans q0b; have n1 := (bC.cell (p := ⟨xb, 1, none⟩) hw4b).trans q1b; have n2 := (bC.cell (p := ⟨xb, 2, none⟩) hw4b).trans q2b; have n3 := (bC.cell (p := ⟨xb, 3, none⟩) hw4b).trans q3b; have n4 := (bC.cell (p := ⟨xb, 4, none⟩) hw4b).trans q4b; have NB : Hid (∀ j u, ([.int .i64 xp, .int .i64 xs, .int .i64 xf, .int .i64 xt, .slice oa xo.length oc] : List Value)[j]? = some u → wC.cell? ((⟨w4.heap.size, 0, none⟩ : Addr).add j) = some u) := World.news_of_block (cs := #[.int .i64 xp, .int .i64 xs, .int .i64 xf, .int .i64 xt, .slice oa xo.length oc]) (t := 47) (fr := (0, 0)) (BC.out.block w4.heap.size hwb2 |>.trans (heap_alloc_new w4 _)); clear r1 r2 r3 r4 bC))

    all_goals
      have hL2 : (L ++ [(xp, xs, xf, xt, xo)]).length = L.length + 1 := by simp
      obtain ⟨L2, hL2d⟩ : ∃ L2, L ++ [(xp, xs, xf, xt, xo)] = L2 := ⟨_, rfl⟩
      rw [hL2d] at hL2 HG2 TW
      have HL2 := hid hL2
      clear hL2
      have T6b : Hid (TxnsIn Any w6 (.slice (some ⟨g, 0, none⟩) (L.length + 1) cap) L2) := by rw [← hL2d]; exact T6.out
      have NW := hid (tnew_is w6 _ L2 T6b.out HG2.out.len HG2.out.ten HG2.out.ok)
      have B6w : Hid (Below w.heap.size w w6) := B5.out.trans (B7.out.mono B5.out.size)
      have O6 : Hid (OpsIn Any w6 (.slice oa xo.length oc) xo) := O5.out.below B7.out
      have r4 : w6.cell? ⟨xb, 4, none⟩ = some (.slice oa xo.length oc) := (B7.out.cell (p := ⟨xb, 4, none⟩) hw4).trans q4
      have hw6 : xb < w6.heap.size := Nat.lt_of_lt_of_le hw4 B7.out.size
      clear T6 hL2d B6 B7 q0 q1 q2 q3 q4 T5 O5
      go_upto_region 7 with (go_at_call 10; refine NW.out.mono ?_; rintro e w8 ⟨tb, rfl, hm8, b8⟩; have M8 := hid hm8; have B8 := hid b8; clear hm8 b8)
      have s4 : w8.cell? ⟨xb, 4, none⟩ = some (.slice oa xo.length oc) := (B8.out.cell (p := ⟨xb, 4, none⟩) hw6).trans r4
      have CF := hid (contFO_is w8 _ xo (O6.out.below B8.out) (by omega))
      obtain ⟨wr0, hwr0⟩ : ∃ wr0, xo.any (fun o => isW o.kind) = wr0 := ⟨_, rfl⟩
      rw [hwr0] at TW CF
      have T8 := hid (T6b.out.below B8.out)
      have B8w : Hid (Below w.heap.size w w8) := B6w.out.trans (B8.out.mono B6w.out.size)
      clear hwr0 r4 hw6 NW O6 T6b B8 B6w
      go_wp2_with (first
        | (go_at_call 27; refine CF.out.mono ?_; rintro e w9 ⟨rfl, b9⟩; have T9 := hid (T8.out.below b9); have M9 : Hid (Made w6.heap.size w9 tb L2) := M8.out.later b9; have B9 : Hid (Below w.heap.size w w9) := B8w.out.trans (b9.mono B8w.out.size); clear b9)
        | (go_at_call 11; refine (rkeys_is w9 _ L2 T9.out HG2.out.len HG2.out.ten).mono ?_; rintro e w10 ⟨kv, rfl, hsr, b10⟩; obtain ⟨ka, kc, hkv⟩ := own_slice hsr; subst hkv; have SR := hid hsr; have M10 : Hid (Made w6.heap.size w10 tb L2) := M9.out.later b10; have B10 : Hid (Below w.heap.size w w10) := B9.out.trans (b10.mono B9.out.size); clear hsr b10))
      clear CF M8 T8 B8w M9 T9 B9 s4
      have hkl : (keysN (notes L2 L2.length) []).length ≤ 10000 := Nat.le_trans (keys_len _) HG2.out.nlen
      have CO : Hid (∀ W, Below w10.heap.size w10 W → Calls Try.prog 21 #[.pointer (some ⟨tb, 0, none⟩)] W fun e w' => e = .returned (.int .i64 (L2.length : Int)) ∧ W = w') := fun W hb => count_is _ W tb L2 (M10.out.later hb)
      rw [HL2.out] at CO
      obtain ⟨KN, hKN⟩ : ∃ KN, (keysN (notes L2 L2.length) []).length = KN := ⟨_, rfl⟩
      have KEY : Hid (∀ q, q < KN → ∃ gk s, ka = some ⟨gk, 0, none⟩ ∧ gk < w10.heap.size ∧ w10.cell? ⟨gk, q, none⟩ = some (.string s) ∧ s.size ≤ maxLen) := fun q hq => by
        obtain ⟨gk, c', hv⟩ := own_some SR.out (by omega)
        cases hv
        obtain ⟨s, h1, h2, _⟩ := key_at HG2.out SR.out q (by omega)
        exact ⟨gk, s, rfl, World.block_lt_of_cell? _ _ h1, h1, h2⟩
      rw [hKN] at hkl
      rw [show (keysN (notes L2 L2.length) []).length = KN from hKN]
      have hkli : (KN : Int) ≤ 10000 := by omega
      clear hKN SR
      go_loopg [9, 10, 11, 40] KN (fun gg _ _ _ i wr => ∃ k : Nat, k ≤ KN ∧ KN - k ≤ gg ∧ i = .int .i64 k ∧ Aside (Below w10.heap.size w10 wr))
      case atStart => exact ⟨0, Nat.zero_le _, by omega, rfl, Below.refl _ _⟩
      case round =>
        obtain ⟨k, hk, hgk, rfl, BR⟩ := hrel
        by_cases hlt : k < KN
        · have hlti : (k : Int) < KN := by omega
          obtain ⟨gk, s, rfl, hgl, hc, hss⟩ := KEY.out k hlt
          have cv := (BR.out.cell (p := ⟨gk, k, none⟩) hgl).trans hc
          have MR : Hid (Made w6.heap.size wr tb L2) := M10.out.later BR.out
          have HSS := hid hss
          clear hc hss
          cases wr0 with
          | true =>
            have HN : Hid (¬ tellN L2 s) := fun c => absurd (TW.out.1 c.2).1 (by decide)
            have UT : Hid (Untold (.pointer (some ⟨tb, 0, none⟩)) s wr) := fun W hb => look_un _ tb L2 s W (MR.out.later hb) HSS.out HN.out
            go_wp2_with (first
              | (go_at_call 12; refine (trace_un _ s wr UT.out.untrue).mono ?_; rintro e w11 ⟨rfl, b11⟩; have U1 := hid (UT.out.later b11); have B11 := hid b11; clear b11)
              | (go_at_call 15; refine (anom_un _ s w11 U1.out).mono ?_; rintro e w12 ⟨rfl, b12⟩; have U2 := hid (U1.out.later b12); have B12 := hid (B11.out.trans (b12.mono B11.out.size)); clear b12)
              | (go_at_call 19; refine (edges_un _ s w12 U2.out.untrue).mono ?_; rintro e w13 ⟨rfl, b13⟩; have B13 := hid (B12.out.trans (b13.mono B12.out.size)); clear b13))
            go_roundg (KN - (k + 1))
            case measure => omega
            case rel => exact ⟨k + 1, by omega, by omega, by go_num, BR.out.trans (B13.out.mono BR.out.size)⟩
          | false =>
            by_cases hok2 : okN L2 s
            · have TR := hid (trace_yes _ tb L2 s wr MR.out HSS.out HG2.out hok2)
              clear hok2
              go_wp2_with (go_at_call 12; refine TR.out.mono ?_; rintro e w11 ⟨ta, tc, rfl, _, b11⟩; have B11 := hid b11; clear b11)
              go_roundg (KN - (k + 1))
              case measure => omega
              case rel => exact ⟨k + 1, by omega, by omega, by go_num, BR.out.trans (B11.out.mono BR.out.size)⟩
            · have UT : Hid (Untrue (.pointer (some ⟨tb, 0, none⟩)) s wr) := trusted_not _ tb L2 s wr MR.out HSS.out HG2.out hok2
              clear hok2
              go_wp2_with (go_at_call 12; refine (trace_un _ s wr UT.out).mono ?_; rintro e w11 ⟨rfl, b11⟩; have B11 := hid b11; clear b11)
              go_roundg (KN - (k + 1))
              case measure => omega
              case rel => exact ⟨k + 1, by omega, by omega, by go_num, BR.out.trans (B11.out.mono BR.out.size)⟩
        · have hke : k = KN := by omega
          have hlti : ¬ (k : Int) < KN := by omega
          have hce : (((L.length : Int) + 1) == ((L.length : Int) + 1)) = true := by simp
          have hcast : ((L.length + 1 : Nat) : Int) = (L.length : Int) + 1 := by omega
          rw [hcast] at CO
          go_wp2_with (go_at_call 21; refine (CO.out _ BR.out).mono ?_; rintro e w11 ⟨rfl, rfl⟩)
          go_ret
          exact ⟨rfl, B10.out.trans (BR.out.mono B10.out.size)⟩
end Go.Proofs.Ytnfbcmnlloipiaa
namespace Go.Proofs.Ytnfbcmnlloipiaa
set_option linter.unusedVariables false
set_option linter.unusedSimpArgs false
open Go.RowKit Go.Lib Go.Maps Go.Sort
open Tx (MTxn info_parts RowsIn.cells RowCells TxnRow TxnsIn smallL)

theorem whysC_at : ∀ (E : List MWy) (q i : Nat), q < E.length → i < 8 → (whysC E)[q * 8 + i]? = (whyCs (E.getD q default))[i]?
  | [], q, i, h, _ => by simp at h
  | a :: l, 0, i, _, hi => by
    show (whyCs a ++ whysC l)[0 * 8 + i]? = _
    rw [Nat.zero_mul, Nat.zero_add, List.getElem?_append_left (by simp [whyCs]; omega)]
    rfl
  | a :: l, q + 1, i, h, hi => by
    show (whyCs a ++ whysC l)[(q + 1) * 8 + i]? = _
    rw [List.getElem?_append_right (by simp [whyCs]; omega)]
    rw [show (q + 1) * 8 + i - (whyCs a).length = q * 8 + i from by simp [whyCs]; omega]
    exact whysC_at l q i (by simpa using h) hi
/-- What is known once the serial history's table was made and its keys told. -/
structure Sv0 (L : List MTxn) : Prop where
  ser : Ser L
  good : Good L
theorem Sv0.tr {L : List MTxn} (h : Sv0 L) {s : ByteArray} (hk : kindN (notes L L.length) s ≠ 0) (hs : s.size ≤ maxLen) (B tb : Nat) (W : World) (m : Made B W tb L) : Calls Try.prog 12 #[.pointer (some ⟨tb, 0, none⟩), .string s] W fun e w' => ∃ ta tc, e = .returned (.tuple #[.slice ta (knwN L s (notes L L.length)).ts.length tc, .bool true]) ∧ IntsIn (fun b => W.heap.size ≤ b) w' (.slice ta (knwN L s (notes L L.length)).ts.length tc) (knwN L s (notes L L.length)).ts ∧ Below W.heap.size W w' := trace_yes B tb L s W m hs h.good (h.ser.ok hk)
theorem Sv0.an {L : List MTxn} (h : Sv0 L) {s : ByteArray} (hk : kindN (notes L L.length) s ≠ 0) (hs : s.size ≤ maxLen) (B tb : Nat) (W : World) (m : Made B W tb L) : Calls Try.prog 15 #[.pointer (some ⟨tb, 0, none⟩), .string s] W fun e w' => ∃ a c, e = .returned (.slice a 0 c) ∧ Below W.heap.size W w' := by
  refine (anom_yes B tb L s W m hs h.good (h.ser.tell hk)).mono fun e w' q => ?_
  obtain ⟨v, q1, q2, q3⟩ := q
  rw [h.ser.ano] at q2
  obtain ⟨a, c, hv⟩ := own_slice q2
  exact ⟨a, c, by rw [q1, hv]; rfl, q3⟩
theorem Sv0.ed {L : List MTxn} (h : Sv0 L) {s : ByteArray} (hk : kindN (notes L L.length) s ≠ 0) (hs : s.size ≤ maxLen) (B tb : Nat) (W : World) (m : Made B W tb L) : Calls Try.prog 19 #[.pointer (some ⟨tb, 0, none⟩), .string s] W fun e w' => ∃ v, e = .returned v ∧ w'.ownsRow W.heap.size 40 8 v (edgN L s).length (whysC (edgN L s)) ∧ Below W.heap.size W w' := edges_yes B tb L s W m hs h.good (h.ser.ok hk)
theorem onceW_len (ws : List MWy) : ∀ out : List MWy, (ws.foldl stepW out).length ≤ out.length + ws.length := by
  induction ws with
  | nil => intro out; simp
  | cons a ws ih =>
    intro out
    have h1 := ih (stepW out a)
    have h2 := step_len out a
    simp only [List.foldl_cons, List.length_cons]
    omega
theorem flat_w {α β : Type} (g : α → List β) (h : ∀ x, (g x).length ≤ 1) : ∀ l : List α, (l.flatMap g).length ≤ l.length
  | [] => by simp
  | a :: l => by
    rw [List.flatMap_cons, List.length_append, List.length_cons]
    have := h a
    have := flat_w g h l
    omega
theorem edgN_len {L : List MTxn} (h : Good L) (s : ByteArray) : (edgN L s).length ≤ 200000 := by
  unfold edgN onceW
  have q := onceW_len (depsL (srcN L s (notes L L.length)) s (knwN L s (notes L L.length)).ts (rdsN L s (notes L L.length))) []
  have hr := h.rlen (s := s)
  have ht := (h.trace (s := s)).2
  have h1 := flat_w (wrE (srcN L s (notes L L.length)) s) (fun r => by unfold wrE; split <;> simp) (rdsN L s (notes L L.length))
  have h2 := flat_w (rwE (srcN L s (notes L L.length)) s (knwN L s (notes L L.length)).ts) (fun r => by unfold rwE; split <;> simp) (rdsN L s (notes L L.length))
  unfold depsL at q ⊢
  rw [List.length_append, List.length_append, List.length_map, List.length_range] at q
  simp only [List.length_nil] at q
  omega
set_option maxHeartbeats 16000000 in
set_option maxRecDepth 100000 in
theorem lserved_walk (tv : Value) (l0 : List MTxn) (w : World) (ht : TxnsIn Any w tv l0) (hok : ∀ t ∈ l0, ∀ o ∈ t.ops, OpOk o) (hwl : ∀ t ∈ l0, ∀ o ∈ t.ops, ∀ x ∈ o.list, (Lit.int .i64 x).wf = true) :
    Calls Try.prog 5 #[tv] w fun e w' => e = .returned (.bool true) ∧ Below w.heap.size w w' := by
  have HT := hid ht
  have hG0 := small_good hok hwl
  obtain ⟨L0, hL⟩ : ∃ L0, smallL l0 = L0 := ⟨_, rfl⟩
  have hlen0 : L0.length ≤ 40 := by rw [← hL]; exact small_len l0
  rw [hL] at hG0
  have HG0 := hid hG0
  have HL := hid hL
  have hli0 : (L0.length : Int) ≤ 40 := by omega
  clear ht hok hwl hL hG0
  go_enter Try.func5, Try.ntmps5
  go_upto_region 2 with (go_at_call 9; refine (Tx.small_any _ l0 _ HT.out).mono ?_; rintro e w1 ⟨v1, rfl, h1, b1⟩; rw [show smallL l0 = L0 from HL.out] at h1; have T1 : Hid (TxnsIn Any w1 v1 L0) := txns_ins h1; have B1 := hid b1; obtain ⟨a1, c1, rfl, hc1⟩ := RowsIn.cells T1.out (by omega); have HC1 := hid hc1.1.2; clear h1 b1 hc1)
  have hmin : min (L0.length : Int) 60 = (L0.length : Int) := by omega
  have hcap : (L0.length : Int) ≤ (c1 : Int) := by have := HC1.out; omega
  have hcapn : L0.length ≤ c1 := HC1.out
  go_upto_region 3 with (go_at_call 23; refine (serial_is w1 _ L0 T1.out hlen0 HG0.out).mono ?_; rintro e w2 ⟨v2, L, rfl, h2, s2, g2, hl2, b2⟩; have T2 := hid h2; have SV : Hid (Sv0 L) := ⟨s2, g2⟩; have HLL := hid hl2; have B2 : Hid (Below w.heap.size w w2) := B1.out.trans (b2.mono B1.out.size); obtain ⟨a2, c2, rfl, _⟩ := RowsIn.cells T2.out (by omega); clear h2 s2 g2 hl2 b2)
  clear hmin hcap hcapn HG0 HL HC1 T1 B1
  have hlen : L.length ≤ 40 := by have := HLL.out; omega
  have hlenI : (L.length : Int) ≤ 40 := by omega
  clear HLL
  go_upto_region 4 with (go_at_call 10; refine (tnew_is w2 _ L T2.out SV.out.good.len SV.out.good.ten SV.out.good.ok).mono ?_; rintro e w3 ⟨tb, rfl, hm3, b3⟩; have M3 := hid hm3; have B3 := hid b3; clear hm3 b3)
  have hkl : (keysN (notes L L.length) []).length ≤ 10000 := Nat.le_trans (keys_len _) SV.out.good.nlen
  go_wp2_with (go_at_call 11; refine (rkeys_is w3 _ L (T2.out.below B3.out) SV.out.good.len SV.out.good.ten).mono ?_; rintro e w8 ⟨kv, rfl, hsr, b8⟩; obtain ⟨ka, kc, hkv⟩ := own_slice hsr; subst hkv; have SR := hid hsr; have M8 : Hid (Made w2.heap.size w8 tb L) := M3.out.later b8; have B8 : Hid (Below w.heap.size w w8) := (B2.out.trans (B3.out.mono B2.out.size)).trans (b8.mono (B2.out.trans (B3.out.mono B2.out.size)).size); clear hsr b8)
  have CO : Hid (∀ W, Below w8.heap.size w8 W → Calls Try.prog 21 #[.pointer (some ⟨tb, 0, none⟩)] W fun e w' => e = .returned (.int .i64 (L.length : Int)) ∧ W = w') := fun W hb => count_is _ W tb L (M8.out.later hb)
  obtain ⟨KN, hKN⟩ : ∃ KN, (keysN (notes L L.length) []).length = KN := ⟨_, rfl⟩
  have KEY : Hid (∀ q, q < KN → ∃ (g : Nat) (s : ByteArray), ka = some ⟨g, 0, none⟩ ∧ w8.cell? ⟨g, q, none⟩ = some (.string s) ∧ s.size ≤ maxLen ∧ kindN (notes L L.length) s ≠ 0) := fun q hq => by
    obtain ⟨gk, c', hv⟩ := own_some SR.out (by omega)
    cases hv
    obtain ⟨s, h1, h2, h3⟩ := key_at SV.out.good SR.out q (by omega)
    exact ⟨gk, s, rfl, h1, h2, h3⟩
  rw [hKN] at hkl
  rw [show (keysN (notes L L.length) []).length = KN from hKN]
  have hkli : (KN : Int) ≤ 10000 := by omega
  clear hKN SR M3 B3
  go_loopg [5, 6, 7, 9, 23] KN (fun gg _ _ _ _ i wr => ∃ k : Nat, k ≤ KN ∧ KN - k ≤ gg ∧ i = .int .i64 k ∧ Aside (Below w8.heap.size w8 wr))
  case atStart => exact ⟨0, Nat.zero_le _, by omega, rfl, Below.refl _ _⟩
  case round =>
    obtain ⟨k, hk, hgk, rfl, BR⟩ := hrel
    by_cases hlt : k < KN
    · have hlti : (k : Int) < (KN : Int) := by omega
      obtain ⟨g8, s, rfl, hc, hss, hkd⟩ := KEY.out k hlt
      have cv := (BR.out.cell (p := ⟨g8, k, none⟩) (World.block_lt_of_cell? _ _ hc)).trans hc
      have TQ : Hid (∀ W, Below w8.heap.size w8 W → Calls Try.prog 12 #[.pointer (some ⟨tb, 0, none⟩), .string s] W fun e w' => ∃ ta tc, e = .returned (.tuple #[.slice ta (knwN L s (notes L L.length)).ts.length tc, .bool true]) ∧ IntsIn (fun b => W.heap.size ≤ b) w' (.slice ta (knwN L s (notes L L.length)).ts.length tc) (knwN L s (notes L L.length)).ts ∧ Below W.heap.size W w') := fun W hb => SV.out.tr hkd hss _ tb W (M8.out.later hb)
      have AQ : Hid (∀ W, Below w8.heap.size w8 W → Calls Try.prog 15 #[.pointer (some ⟨tb, 0, none⟩), .string s] W fun e w' => ∃ a c, e = .returned (.slice a 0 c) ∧ Below W.heap.size W w') := fun W hb => SV.out.an hkd hss _ tb W (M8.out.later hb)
      have EQ : Hid (∀ W, Below w8.heap.size w8 W → Calls Try.prog 19 #[.pointer (some ⟨tb, 0, none⟩), .string s] W fun e w' => ∃ v, e = .returned v ∧ w'.ownsRow W.heap.size 40 8 v (edgN L s).length (whysC (edgN L s)) ∧ Below W.heap.size W w') := fun W hb => SV.out.ed hkd hss _ tb W (M8.out.later hb)
      have hel := edgN_len SV.out.good s
      have LEAD : Hid (∀ q, q < (edgN L s).length → 0 ≤ ((edgN L s).getD q default).1 ∧ ((edgN L s).getD q default).1 < ((edgN L s).getD q default).2.1 ∧ ((edgN L s).getD q default).2.1 < (L.length : Int)) := fun q hq => SV.out.ser.leads (s := s) (by rw [getD_is hq]; exact List.getElem_mem hq)
      generalize edgN L s = E at *
      generalize (knwN L s (notes L L.length)).ts = TS at *
      have heli : (E.length : Int) ≤ 200000 := by omega
      clear hc hss hkd
      go_wp2_with (first
        | (go_at_call 12; refine (TQ.out _ BR.out).mono ?_; rintro e w11 ⟨ta, tc, rfl, _, b11⟩; have B11 := hid (BR.out.trans (b11.mono BR.out.size)); clear b11)
        | (go_at_call 15; refine (AQ.out _ B11.out).mono ?_; rintro e w12 ⟨aa, ac, rfl, b12⟩; have B12 := hid (B11.out.trans (b12.mono B11.out.size)); clear b12)
        | (go_at_call 19; refine (EQ.out _ B12.out).mono ?_; rintro e w13 ⟨v13, rfl, o13, b13⟩; obtain ⟨ea, ec, hx13⟩ := own_slice o13; subst hx13; have O13 := hid o13; have B13 := hid (B12.out.trans (b13.mono B12.out.size)); clear o13 b13))
      go_loopg [9, 46] E.length (fun gg _ i wi => ∃ q : Nat, q ≤ E.length ∧ E.length - q ≤ gg ∧ i = .int .i64 q ∧ Aside (Below w8.heap.size w8 wi) ∧ Aside (Below w13.heap.size w13 wi))
      case atStart => exact ⟨0, Nat.zero_le _, by omega, rfl, B13.out, Below.refl _ _⟩
      case round =>
        obtain ⟨q, hq, hgq, rfl, BQ, BQ13⟩ := hrel
        by_cases hql : q < E.length
        · have hqli : (q : Int) < (E.length : Int) := by omega
          obtain ⟨eg, ec', hv⟩ := own_some O13.out (by omega)
          cases hv
          have ce : ∀ i u, i < 8 → (whyCs (E.getD q default))[i]? = some u → wr.cell? ⟨eg, q * 8 + i, none⟩ = some u := fun i u hi hu => by
            have h0 := (O13.out.cellAt (q * 8 + i) (by omega)).trans ((whysC_at E q i hql hi).trans hu)
            exact (BQ13.out.cell (p := ⟨eg, q * 8 + i, none⟩) (World.block_lt_of_cell? _ _ h0)).trans h0
          obtain ⟨ld1, ld2, ld3⟩ := LEAD.out q hql
          obtain ⟨Y, hY⟩ : ∃ Y, E.getD q default = Y := ⟨_, rfl⟩
          rw [hY] at ce ld1 ld2 ld3
          obtain ⟨e1, e2, e3, e4, e5, e6, e7⟩ := Y
          simp only at ld1 ld2 ld3
          have y0 := ce 0 _ (by omega) rfl
          have y1 := ce 1 _ (by omega) rfl
          have y2 := ce 2 _ (by omega) rfl
          have y3 := ce 3 _ (by omega) rfl
          have y4 := ce 4 _ (by omega) rfl
          have y5 := ce 5 _ (by omega) rfl
          have y6 := ce 6 _ (by omega) rfl
          have y7 := ce 7 _ (by omega) rfl
          rw [Nat.add_zero] at y0
          simp only at y0 y1 y2 y3 y4 y5 y6 y7
          have BN : ∀ o, Hid (Below w8.heap.size w8 (wr.alloc o)) := fun o => BQ.out.trans ((below_box wr _).mono BQ.out.size)
          have BN13 : ∀ o, Hid (Below w13.heap.size w13 (wr.alloc o)) := fun o => BQ13.out.trans ((below_box wr _).mono BQ13.out.size)
          have t1 : ¬ e2 ≤ e1 := by omega
          have t2 : ¬ e1 < 0 := by omega
          have t3 : ¬ (L.length : Int) ≤ e2 := by omega
          have d1 : decide (e2 ≤ e1) = false := decide_eq_false t1
          have d2 : decide (e1 < 0) = false := decide_eq_false t2
          have d3 : decide ((L.length : Int) ≤ e2) = false := decide_eq_false t3
          clear hY ce ld1 ld2 ld3
          go_wp2_with fail
          go_roundg (E.length - (q + 1))
          case measure => omega
          case rel => exact ⟨q + 1, by omega, by omega, by go_num, (BN _).out, (BN13 _).out⟩
        · have hqe : q = E.length := by omega
          have hqli : ¬ (q : Int) < (E.length : Int) := by omega
          clear hqe
          go_wp2_with fail
          go_roundg (KN - (k + 1))
          case measure => omega
          case rel => exact ⟨k + 1, by omega, by omega, by go_num, BQ.out⟩
    · have hke : k = KN := by omega
      have hlti : ¬ (k : Int) < (KN : Int) := by omega
      have hce : ((L.length : Int) == (L.length : Int)) = true := by simp
      clear hke
      go_wp2_with (go_at_call 21; refine (CO.out _ BR.out).mono ?_; rintro e w11 ⟨rfl, rfl⟩)
      go_ret
      exact ⟨rfl, B8.out.trans (BR.out.mono B8.out.size)⟩
end Go.Proofs.Ytnfbcmnlloipiaa
namespace Go.Proofs.Ytnfbcmnlloipiaa.Tx
set_option linter.unusedVariables false
set_option linter.unusedSimpArgs false
open Go.RowKit Go.ChangeShapes Go.WideShapes

theorem Try.cells4 : Try.prog.cellsOf 4 = 1 := by kernel_rfl
theorem Try.cells28 : Try.prog.cellsOf 28 = 1 := by kernel_rfl
theorem Try.cells49 : Try.prog.cellsOf 49 = 6 := by kernel_rfl
theorem Try.cells3 : Try.prog.cellsOf 3 = 1 := by kernel_rfl
theorem Try.cells9 : Try.prog.cellsOf 9 = 1 := by kernel_rfl
theorem Try.cells45 : Try.prog.cellsOf 45 = 1 := by kernel_rfl
theorem Try.cells47 : Try.prog.cellsOf 47 = 5 := by kernel_rfl
theorem Try.bytes47 : Try.prog.bytesOf 47 = 56 := by kernel_rfl
theorem Try.bytes3 : Try.prog.bytesOf 3 = 8 := by kernel_rfl
theorem Try.bytes49 : Try.prog.bytesOf 49 = 64 := by kernel_rfl

section
variable {H : Type} {enc : TypeId × Value → H} {P : Program} {w : World} {base : Nat} {spare : Nat → Bool} {held : Bool}

theorem weightsAll_mem {e : TypeId} {n : Nat} {d : DataW H} : ∀ {ds : List (DataW H)}, d ∈ ds → n ∈ d.weights P e → n ∈ DataW.weightsAll P e ds
  | [], hd, _ => by simp at hd
  | x :: ds, hd, hn => by
    simp only [DataW.weightsAll, List.mem_append]
    rcases List.mem_cons.1 hd with rfl | hd
    · exact Or.inl hn
    · exact Or.inr (weightsAll_mem hd hn)

/-- A slice of elements of k cells, each of which can be read. -/
theorem rows_of_trod {α : Type} [Inhabited α] {t e : TypeId} {k bytes fuel : Nat} {R : List Value → α → Prop} {cs : List Value} {x : DataW H × List MemPlace}
    (ht : P.underlying t = some (.slice e)) (hk : P.cellsOf e = k) (hk0 : 0 < k) (hby : P.bytesOf e = bytes)
    (h : DataW.trod enc P w base spare held fuel t cs = some x) (hw : ∀ n ∈ x.1.weights P t, n ≤ reachBytes)
    (he : ∀ (n : Nat) (cs' : List Value) (y : DataW H × List MemPlace), cs'.length = k → DataW.trod enc P w base spare held n e cs' = some y → (∀ n ∈ y.1.weights P e, n ≤ reachBytes) → ∃ a : α, R cs' a) :
    ∃ v l, cs = [v] ∧ RowsIn k bytes R Any w v l := by
  rcases Deep.open_slice ht h with ⟨rfl, rfl⟩ | ⟨a, len, cap, m, n, D, Pl, rfl, hb, hl, hm, hmm, rfl, hx⟩
  · exact ⟨_, [], rfl, none, 0, rfl, ⟨by simp, Nat.le_refl _⟩, fun h => by simp at h⟩
  · have hlm : len ≤ m := by rw [hmm]; split <;> omega
    rw [hk] at hx
    have key : ∀ i, i < len → ∃ q : α × List Value, q.2.length = k ∧ R q.2 q.1 ∧ ∀ j, j < k → w.cell? (a.add (i * k + j)) = q.2[j]? := fun i hi => by
      obtain ⟨cs', h1, h2⟩ := hx i (by omega)
      obtain ⟨_, hlen, hc⟩ := World.cells?_some h1
      obtain ⟨y, hy⟩ := he n cs' _ hlen h2 (fun q hq => hw q (by
        simp only [DataW.weights, ht, List.mem_cons, List.mem_append]
        exact Or.inr (Or.inl (weightsAll_mem (d := D i) (by simp; exact ⟨i, hi, rfl⟩) hq))))
      exact ⟨(y, cs'), hlen, hy, fun j hj => by rw [← Deep.add_add]; exact hc j hj⟩
    obtain ⟨f, hf⟩ := Deep.choose_lt (α := α × List Value) key
    refine ⟨_, (List.range len).map (fun i => (f i).1), rfl, some a, cap, by simp, ⟨?_, by simpa using hl⟩, fun h0 => ?_⟩
    · have := hw ((len + (m - len)) * P.bytesOf e) (by simp [DataW.weights, ht])
      rw [hby] at this
      simp only [List.length_map, List.length_range]
      have h2 : len * bytes ≤ (len + (m - len)) * bytes := Nat.mul_le_mul_right _ (by omega)
      have h3 : reachBytes ≤ 140737488355328 := by decide
      omega
    · simp only [List.length_map, List.length_range] at h0
      obtain ⟨b, off, spot⟩ := a
      have hspot : spot = none := by
        obtain ⟨h1, _, h3⟩ := hf 0 h0
        have := h3 0 hk0
        rw [List.getElem?_eq_getElem (by omega)] at this
        simpa [Addr.add] using World.cell?_spot this
      subst hspot
      refine ⟨b, off, rfl, trivial, fun j hj => ?_⟩
      simp only [List.length_map, List.length_range] at hj
      obtain ⟨h1, h2, h3⟩ := hf j hj
      refine ⟨(f j).2, h1, ?_, fun i u hi => ?_⟩
      · simpa [List.getD, hj] using h2
      · have hik : i < k := by rw [← h1]; exact (List.getElem?_eq_some_iff.1 hi).1
        have := h3 i hik
        rw [Addr.add_lit, hi] at this
        simpa [Nat.add_assoc] using this
end

/-- What holds of each row's element holds of each element. -/
theorem rows_all {α : Type} [Inhabited α] {k bytes : Nat} {R : List Value → α → Prop} {C : α → Prop} {S : Nat → Prop} {w : World} {v : Value} {l : List α} (h : RowsIn k bytes (fun cs a => R cs a ∧ C a) S w v l) : RowsIn k bytes R S w v l ∧ ∀ a ∈ l, C a := by
  obtain ⟨ao, c, hv, hl, hc⟩ := h
  refine ⟨⟨ao, c, hv, hl, fun h0 => ?_⟩, fun a ha => ?_⟩
  · obtain ⟨b, off, e1, e2, hj⟩ := hc h0
    refine ⟨b, off, e1, e2, fun j hlt => ?_⟩
    obtain ⟨cs, q1, q2, q3⟩ := hj j hlt
    exact ⟨cs, q1, q2.1, q3⟩
  · obtain ⟨j, hj, e⟩ := List.mem_iff_getElem.1 ha
    obtain ⟨b, off, _, _, hcc⟩ := hc (by omega)
    obtain ⟨cs, _, q2, _⟩ := hcc j hj
    have : l.getD j default = a := by simp [List.getD, List.getElem?_eq_getElem hj, e]
    rw [this] at q2
    exact q2.2


/-- An operation that a machine can hold. -/
def OpFit (o : MOp) : Prop := o.key.size ≤ 281474976710656 ∧ o.list.length * 8 ≤ 140737488355328 ∧ (Lit.int .i64 o.value).wf = true ∧ ∀ x ∈ o.list, (Lit.int .i64 x).wf = true

section
variable {H : Type} {enc : TypeId × Value → H} {w : World} {base : Nat} {spare : Nat → Bool} {held : Bool}

/-- A list of ints. -/
theorem ints_of_trod {fuel : Nat} {cs : List Value} {x : DataW H × List MemPlace} (h : DataW.trod enc Try.prog w base spare held fuel 28 cs = some x) (hw : ∀ n ∈ x.1.weights Try.prog 28, n ≤ reachBytes) :
    ∃ v l, cs = [v] ∧ IntsIn Any w v l ∧ ∀ x ∈ l, (Lit.int .i64 x).wf = true := by
  obtain ⟨v, l, hv, hr⟩ := rows_of_trod (R := fun cs (a : Int) => cs = [.int .i64 a] ∧ (Lit.int .i64 a).wf = true) (k := 1) (bytes := 8) Try.underlying28 Try.cells3 (by omega) Try.bytes3 h hw (fun n cs' y hlen hy _ => by
    obtain ⟨z, hz, _, hz2⟩ := DataW.trod_int Try.underlying3 hy
    exact ⟨z, hz, hz2⟩)
  obtain ⟨hr, hwf⟩ := rows_all hr
  obtain ⟨ao, c, hvv, hl, hc⟩ := hr
  refine ⟨v, l, hv, ⟨ao, c, hvv, hl, fun h0 => ?_⟩, hwf⟩
  obtain ⟨b, off, ha, _, hj⟩ := hc h0
  refine ⟨b, off, ha, trivial, fun j hlt => ?_⟩
  obtain ⟨cs', _, hcs, hcc⟩ := hj j hlt
  have := hcc 0 (.int .i64 (l.getD j default)) (by rw [hcs]; rfl)
  simpa using this

set_option maxRecDepth 10000 in
/-- An operation's six cells. -/
theorem op_of_trod (n : Nat) (cs : List Value) (y : DataW H × List MemPlace) (hlen : cs.length = 6) (h : DataW.trod enc Try.prog w base spare held n 49 cs = some y) (hw : ∀ n ∈ y.1.weights Try.prog 49, n ≤ reachBytes) :
    ∃ a : MOp, OpRow Any w cs a ∧ OpFit a := by
  obtain ⟨xs, m, rfl, rfl, _, hxl, hf⟩ := DataW.trod_struct Try.underlying49 h
  match cs, hlen with
  | [c0, c1, c2, c3, c4, c5], _ =>
    match xs, hxl with
    | [x0, x1, x2, x3, x4, x5], _ =>
      have f0 := hf 0 _ rfl
      have f1 := hf 1 _ rfl
      have f2 := hf 2 _ rfl
      have f3 := hf 3 _ rfl
      have f4 := hf 4 _ rfl
      have f5 := hf 5 _ rfl
      simp [Try.cells3, Try.cells4, Try.cells9, Try.cells28] at f0 f1 f2 f3 f4 f5
      obtain ⟨k, e0, _⟩ := DataW.trod_int Try.underlying3 f0
      obtain ⟨s, e1, g1, _⟩ := DataW.trod_string Try.underlying9 f1
      obtain ⟨v, e2, _, wv⟩ := DataW.trod_int Try.underlying3 f2
      obtain ⟨lv, l, e3, hl, hlw⟩ := ints_of_trod f3 (fun n hn => hw n (by
        simp only [DataW.weights, Try.underlying49]
        exact DataW.weights_mem_each (j := 3) rfl rfl n hn))
      have hks : s.size ≤ reachBytes := by
        have := hw s.data.toList.length (by
          simp only [DataW.weights, Try.underlying49]
          exact DataW.weights_mem_each (j := 1) rfl rfl _ (by rw [g1]; simp [DataW.weights, Try.underlying9]))
        rw [Array.length_toList] at this
        exact this
      obtain ⟨p, e4, _⟩ := DataW.trod_bool Try.underlying4 f4
      obtain ⟨q, e5, _⟩ := DataW.trod_bool Try.underlying4 f5
      simp at e0 e1 e2 e3 e4 e5
      subst e0 e1 e2 e3 e4 e5
      have hll : l.length * 8 ≤ 140737488355328 := by obtain ⟨_, _, _, h, _⟩ := hl; exact h.1
      exact ⟨⟨k, s, v, l, p, q⟩, ⟨c3, rfl, hl⟩, Nat.le_trans hks (by decide), hll, wv, hlw⟩

/-- Operations. -/
theorem ops_of_trod {fuel : Nat} {cs : List Value} {x : DataW H × List MemPlace} (h : DataW.trod enc Try.prog w base spare held fuel 45 cs = some x) (hw : ∀ n ∈ x.1.weights Try.prog 45, n ≤ reachBytes) :
    ∃ v l, cs = [v] ∧ OpsIn Any w v l ∧ ∀ o ∈ l, OpFit o := by
  obtain ⟨v, l, hv, hr⟩ := rows_of_trod (R := fun cs a => OpRow Any w cs a ∧ OpFit a) (k := 6) (bytes := 64) Try.underlying45 Try.cells49 (by omega) Try.bytes49 h hw op_of_trod
  obtain ⟨h1, h2⟩ := rows_all hr
  exact ⟨v, l, hv, h1, h2⟩

set_option maxRecDepth 10000 in
/-- A transaction's five cells. -/
theorem txn_of_trod (n : Nat) (cs : List Value) (y : DataW H × List MemPlace) (hlen : cs.length = 5) (h : DataW.trod enc Try.prog w base spare held n 47 cs = some y) (hw : ∀ n ∈ y.1.weights Try.prog 47, n ≤ reachBytes) :
    ∃ a : MTxn, TxnRow Any w cs a ∧ ∀ o ∈ a.ops, OpFit o := by
  obtain ⟨xs, m, rfl, rfl, _, hxl, hf⟩ := DataW.trod_struct Try.underlying47 h
  match cs, hlen with
  | [c0, c1, c2, c3, c4], _ =>
    match xs, hxl with
    | [x0, x1, x2, x3, x4], _ =>
      have f0 := hf 0 _ rfl
      have f1 := hf 1 _ rfl
      have f2 := hf 2 _ rfl
      have f3 := hf 3 _ rfl
      have f4 := hf 4 _ rfl
      simp [Try.cells3, Try.cells45] at f0 f1 f2 f3 f4
      obtain ⟨k, e0, _⟩ := DataW.trod_int Try.underlying3 f0
      obtain ⟨s, e1, _⟩ := DataW.trod_int Try.underlying3 f1
      obtain ⟨v, e2, _⟩ := DataW.trod_int Try.underlying3 f2
      obtain ⟨q, e3, _⟩ := DataW.trod_int Try.underlying3 f3
      obtain ⟨lv, l, e4, hl, hfit⟩ := ops_of_trod f4 (fun n hn => hw n (by
        simp only [DataW.weights, Try.underlying47]
        exact DataW.weights_mem_each (j := 4) rfl rfl n hn))
      simp at e0 e1 e2 e3 e4
      subst e0 e1 e2 e3 e4
      exact ⟨⟨k, s, v, q, l⟩, ⟨c4, rfl, hl⟩, hfit⟩

/-- Transactions. -/
theorem txns_of_trod {fuel : Nat} {cs : List Value} {x : DataW H × List MemPlace} (h : DataW.trod enc Try.prog w base spare held fuel 22 cs = some x) (hw : ∀ n ∈ x.1.weights Try.prog 22, n ≤ reachBytes) :
    ∃ v l, cs = [v] ∧ TxnsIn Any w v l ∧ ∀ t ∈ l, ∀ o ∈ t.ops, OpFit o := by
  obtain ⟨v, l, hv, hr⟩ := rows_of_trod (R := fun cs a => TxnRow Any w cs a ∧ ∀ o ∈ a.ops, OpFit o) (k := 5) (bytes := 56) Try.underlying22 Try.cells47 (by omega) Try.bytes47 h hw txn_of_trod
  obtain ⟨h1, h2⟩ := rows_all hr
  exact ⟨v, l, hv, h1, h2⟩
end
end Go.Proofs.Ytnfbcmnlloipiaa.Tx
