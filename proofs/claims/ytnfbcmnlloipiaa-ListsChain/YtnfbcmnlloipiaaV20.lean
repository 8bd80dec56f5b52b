/-
  Along the trace each writer leads to the next one: the walk of the law.
  From a reading of transactions as data to the transactions in memory.
-/
import Derived.Test.YtnfbcmnlloipiaaV19
import Derived.Test.YtnfbcmnlloipiaaV14
import Derived.Test.YtnfbcmnlloipiaaV1
import Derived.Deep.Slices
import Derived.OpenShut
import Derived.SizedLaws
namespace Go.Proofs.Ytnfbcmnlloipiaa
set_option linter.unusedVariables false
set_option linter.unusedSimpArgs false
open Go.RowKit Go.Lib Go.Maps Go.Sort
open Tx (MTxn info_parts RowsIn.cells RowCells TxnRow TxnsIn smallL)

set_option maxHeartbeats 16000000 in
set_option maxRecDepth 100000 in
theorem lchain_walk (tv : Value) (l0 : List MTxn) (w : World) (ht : TxnsIn Any w tv l0) (hok : ∀ t ∈ l0, ∀ o ∈ t.ops, OpOk o) (hwl : ∀ t ∈ l0, ∀ o ∈ t.ops, ∀ x ∈ o.list, (Lit.int .i64 x).wf = true) :
    Calls Try.prog 6 #[tv] w fun e w' => e = .returned (.bool true) ∧ Below w.heap.size w w' := by
  have HT := hid ht
  have hG0 := small_good hok hwl
  obtain ⟨L0, hL⟩ : ∃ L0, smallL l0 = L0 := ⟨_, rfl⟩
  have hlen0 : L0.length ≤ 40 := by rw [← hL]; exact small_len l0
  rw [hL] at hG0
  have HG0 := hid hG0
  have HL := hid hL
  have hli0 : (L0.length : Int) ≤ 40 := by omega
  clear ht hok hwl hL hG0
  go_enter Try.func6, Try.ntmps6
  go_upto_region 2 with (go_at_call 9; refine (Tx.small_any _ l0 _ HT.out).mono ?_; rintro e w1 ⟨v1, rfl, h1, b1⟩; rw [show smallL l0 = L0 from HL.out] at h1; have T1 : Hid (TxnsIn Any w1 v1 L0) := txns_ins h1; have B1 := hid b1; obtain ⟨a1, c1, rfl, hc1⟩ := RowsIn.cells T1.out (by omega); have HC1 := hid hc1.1.2; clear h1 b1 hc1)
  have hmin : min (L0.length : Int) 60 = (L0.length : Int) := by omega
  have hcap : (L0.length : Int) ≤ (c1 : Int) := by have := HC1.out; omega
  have hcapn : L0.length ≤ c1 := HC1.out
  go_upto_region 3 with (go_at_call 23; refine (serial_is w1 _ L0 T1.out hlen0 HG0.out).mono ?_; rintro e w2 ⟨v2, L, rfl, h2, s2, g2, hl2, b2⟩; have T2 := hid h2; have SV : Hid (Sv0 L) := ⟨s2, g2⟩; have HLL := hid hl2; have B2 : Hid (Below w.heap.size w w2) := B1.out.trans (b2.mono B1.out.size); obtain ⟨a2, c2, rfl, _⟩ := RowsIn.cells T2.out (by omega); clear h2 s2 g2 hl2 b2)
  clear hmin hcap hcapn HG0 HL HC1 T1 B1
  have hlen : L.length ≤ 40 := by have := HLL.out; omega
  have hlenI : (L.length : Int) ≤ 40 := by omega
  clear HLL
  go_upto_region 4 with (go_at_call 10; refine (tnew_is w2 _ L T2.out SV.out.good.len SV.out.good.ten SV.out.good.ok).mono ?_; rintro e w3 ⟨tb, rfl, hm3, b3⟩; have M3 := hid hm3; have B3 := hid b3; clear hm3 b3)
  have hkl : (keysN (notes L L.length) []).length ≤ 10000 := Nat.le_trans (keys_len _) SV.out.good.nlen
  go_wp2_with (go_at_call 11; refine (rkeys_is w3 _ L (T2.out.below B3.out) SV.out.good.len SV.out.good.ten).mono ?_; rintro e w8 ⟨kv, rfl, hsr, b8⟩; obtain ⟨ka, kc, hkv⟩ := own_slice hsr; subst hkv; have SR := hid hsr; have M8 : Hid (Made w2.heap.size w8 tb L) := M3.out.later b8; have B8 : Hid (Below w.heap.size w w8) := (B2.out.trans (B3.out.mono B2.out.size)).trans (b8.mono (B2.out.trans (B3.out.mono B2.out.size)).size); clear hsr b8)
  have CO : Hid (∀ W, Below w8.heap.size w8 W → Calls Try.prog 21 #[.pointer (some ⟨tb, 0, none⟩)] W fun e w' => e = .returned (.int .i64 (L.length : Int)) ∧ W = w') := fun W hb => count_is _ W tb L (M8.out.later hb)
  obtain ⟨KN, hKN⟩ : ∃ KN, (keysN (notes L L.length) []).length = KN := ⟨_, rfl⟩
  have KEY : Hid (∀ q, q < KN → ∃ (g : Nat) (s : ByteArray), ka = some ⟨g, 0, none⟩ ∧ w8.cell? ⟨g, q, none⟩ = some (.string s) ∧ s.size ≤ maxLen ∧ kindN (notes L L.length) s ≠ 0) := fun q hq => by
    obtain ⟨gk, c', hv⟩ := own_some SR.out (by omega)
    cases hv
    obtain ⟨s, h1, h2, h3⟩ := key_at SV.out.good SR.out q (by omega)
    exact ⟨gk, s, rfl, h1, h2, h3⟩
  rw [hKN] at hkl
  rw [show (keysN (notes L L.length) []).length = KN from hKN]
  have hkli : (KN : Int) ≤ 10000 := by omega
  clear hKN SR M3 B3
  have hnl := SV.out.good.nlen
  go_loopg [5, 6, 7, 8, 9, 10, 11, 12, 26] KN (fun gg _ _ _ _ _ _ _ _ i wr => ∃ k : Nat, k ≤ KN ∧ KN - k ≤ gg ∧ i = .int .i64 k ∧ Aside (Below w8.heap.size w8 wr))
  case atStart => exact ⟨0, Nat.zero_le _, by omega, rfl, Below.refl _ _⟩
  case round =>
    obtain ⟨k, hk, hgk, rfl, BR⟩ := hrel
    by_cases hlt : k < KN
    · have hlti : (k : Int) < (KN : Int) := by omega
      obtain ⟨g8, s, rfl, hc, hss, hkd⟩ := KEY.out k hlt
      have cv := (BR.out.cell (p := ⟨g8, k, none⟩) (World.block_lt_of_cell? _ _ hc)).trans hc
      have TQ : Hid (∀ W, Below w8.heap.size w8 W → Calls Try.prog 12 #[.pointer (some ⟨tb, 0, none⟩), .string s] W fun e w' => ∃ ta tc, e = .returned (.tuple #[.slice ta (knwN L s (notes L L.length)).ts.length tc, .bool true]) ∧ IntsIn (fun b => W.heap.size ≤ b) w' (.slice ta (knwN L s (notes L L.length)).ts.length tc) (knwN L s (notes L L.length)).ts ∧ Below W.heap.size W w') := fun W hb => SV.out.tr hkd hss _ tb W (M8.out.later hb)
      have EQ : Hid (∀ W, Below w8.heap.size w8 W → Calls Try.prog 19 #[.pointer (some ⟨tb, 0, none⟩), .string s] W fun e w' => ∃ v, e = .returned v ∧ w'.ownsRow W.heap.size 40 8 v (edgN L s).length (whysC (edgN L s)) ∧ Below W.heap.size W w') := fun W hb => SV.out.ed hkd hss _ tb W (M8.out.later hb)
      have hel := edgN_len SV.out.good s
      have htl := (SV.out.good.trace (s := s)).2
      have TWF : Hid (∀ r, r < (knwN L s (notes L L.length)).ts.length → (Lit.int .i64 ((knwN L s (notes L L.length)).ts.getD r default)).wf = true) := fun r hr => (SV.out.good.trace (s := s)).1 _ (by rw [getD_is hr]; exact List.getElem_mem hr)
      have WRI : Hid (∀ r, r < (knwN L s (notes L L.length)).ts.length → ∀ W, Below w8.heap.size w8 W → Calls Try.prog 24 #[.pointer (some ⟨tb, 0, none⟩), .string s, .int .i64 ((knwN L s (notes L L.length)).ts.getD r default)] W fun e w' => ∃ g c, e = .returned (.slice (some ⟨g, 0, none⟩) 1 c) ∧ w'.cell? ⟨g, 0, none⟩ = some (.int .i64 ((apK L s r).1 : Int)) ∧ Below W.heap.size W w') := fun r hr W hb => by
        refine (twriters_is _ W tb L (M8.out.later hb) s _ hss (TWF.out r hr) (by omega)).mono fun e w' q => ?_
        obtain ⟨v', q1, q2, q3⟩ := q
        rw [SV.out.ser.wrote hr] at q2
        obtain ⟨g, c, hv⟩ := own_some q2 (by simp)
        subst hv
        exact ⟨g, c, q1, q2.cellAt 0 (by simp), q3⟩
      have CHN : Hid (∀ r, r + 1 < (knwN L s (notes L L.length)).ts.length → (apK L s r).1 ≠ (apK L s (r + 1)).1 → (((apK L s r).1 : Int), ((apK L s (r + 1)).1 : Int), (1 : Int), s, (knwN L s (notes L L.length)).ts.getD r default, (knwN L s (notes L L.length)).ts.getD (r + 1) default, false) ∈ edgN L s) := fun r hr hne => SV.out.ser.chained hr hne
      generalize edgN L s = E at *
      generalize (knwN L s (notes L L.length)).ts = TS at *
      obtain ⟨AK, hAK⟩ : ∃ AK : Nat → Nat, ∀ r, (apK L s r).1 = AK r := ⟨_, fun _ => rfl⟩
      simp only [hAK] at WRI CHN
      have heli : (E.length : Int) ≤ 200000 := by omega
      have htli : (TS.length : Int) ≤ 100000 := by omega
      clear hc hss hkd hAK
      go_upto_region 11 with (first
        | (go_at_call 12; refine (TQ.out _ BR.out).mono ?_; rintro e w11 ⟨ta, tc, rfl, i11, b11⟩; have I11 := hid i11; have B11 := hid (BR.out.trans (b11.mono BR.out.size)); clear b11 i11)
        | (go_at_call 19; refine (EQ.out _ B11.out).mono ?_; rintro e w13 ⟨v13, rfl, o13, b13⟩; obtain ⟨ea, ec, hx13⟩ := own_slice o13; subst hx13; have O13 := hid (own_argY o13); have I13 : Hid (IntsIn Any w13 (.slice ta TS.length tc) TS) := (I11.out.keep (fun _ _ _ => rfl) (fun _ _ _ => trivial)).below b13; have B13 := hid (B11.out.trans (b13.mono B11.out.size)); clear o13 b13))
      have TC : Hid (∀ W, Below w13.heap.size w13 W → ∀ r, r < TS.length → ∃ tg to, ta = some ⟨tg, to, none⟩ ∧ W.cell? ⟨tg, to + r, none⟩ = some (.int .i64 (TS.getD r default))) := fun W hb r hr => by
        obtain ⟨ao, c', hv, _, hc⟩ := id I13.out
        cases hv
        obtain ⟨b, off, e, _, h3⟩ := hc (by omega)
        exact ⟨b, off, e, (hb.cell (p := ⟨b, off + r, none⟩) (World.block_lt_of_cell? _ _ (h3 r hr))).trans (h3 r hr)⟩
      clear TQ EQ I11 B11 I13 cv TWF BR
      go_wp2_with fail
      go_loopg [9, 10, 11, 12] (TS.length + 1) (fun gg i _ _ _ wi => ∃ r : Nat, r ≤ TS.length ∧ TS.length - r ≤ gg ∧ i = .int .i64 ((r : Int) + 1) ∧ Aside (Below w13.heap.size w13 wi))
      case atStart => exact ⟨0, Nat.zero_le _, by omega, rfl, Below.refl _ _⟩
      case round =>
        obtain ⟨r, hr, hgr, rfl, BQ⟩ := hrel
        have BQ8 : Hid (Below w8.heap.size w8 wr) := B13.out.trans (BQ.out.mono B13.out.size)
        by_cases hrl : r + 1 < TS.length
        · have hrli : (r : Int) + 1 < (TS.length : Int) := by omega
          have hrl0 : (r : Int) < (TS.length : Int) := by omega
          have WA : Hid (∀ W, Below wr.heap.size wr W → Calls Try.prog 24 #[.pointer (some ⟨tb, 0, none⟩), .string s, .int .i64 (TS.getD r default)] W fun e w' => ∃ g c, e = .returned (.slice (some ⟨g, 0, none⟩) 1 c) ∧ w'.cell? ⟨g, 0, none⟩ = some (.int .i64 (AK r : Int)) ∧ Below W.heap.size W w') := fun W hb => WRI.out r (by omega) W (BQ8.out.trans (hb.mono BQ8.out.size))
          have WB : Hid (∀ W, Below wr.heap.size wr W → Calls Try.prog 24 #[.pointer (some ⟨tb, 0, none⟩), .string s, .int .i64 (TS.getD (r + 1) default)] W fun e w' => ∃ g c, e = .returned (.slice (some ⟨g, 0, none⟩) 1 c) ∧ w'.cell? ⟨g, 0, none⟩ = some (.int .i64 (AK (r + 1) : Int)) ∧ Below W.heap.size W w') := fun W hb => WRI.out (r + 1) hrl W (BQ8.out.trans (hb.mono BQ8.out.size))
          have CH := hid (CHN.out r hrl)
          obtain ⟨tg, to, rfl, _⟩ := TC.out wr BQ.out r (by omega)
          have TK : Hid (∀ W, Below wr.heap.size wr W → W.cell? ⟨tg, to + r, none⟩ = some (.int .i64 (TS.getD r default)) ∧ W.cell? ⟨tg, to + (r + 1), none⟩ = some (.int .i64 (TS.getD (r + 1) default))) := fun W hb => by
            obtain ⟨tb1, to1, e1, h1⟩ := TC.out W (BQ.out.trans (hb.mono BQ.out.size)) r (by omega)
            cases e1
            obtain ⟨tb2, to2, e2, h2⟩ := TC.out W (BQ.out.trans (hb.mono BQ.out.size)) (r + 1) hrl
            cases e2
            exact ⟨h1, h2⟩
          generalize TS.getD r default = XA at *
          generalize TS.getD (r + 1) default = XB at *
          generalize AK r = pA at *
          generalize AK (r + 1) = pB at *
          have hwr : IntKind.i64.wrap ((r : Int) + 1 - 1) = (r : Int) := by rw [IntKind.wrap_i64]; omega
          have hwr2 : IntKind.i64.wrap (r : Int) = (r : Int) := by rw [IntKind.wrap_i64]; omega
          have hsub : (r : Int) + 1 - 1 = (r : Int) := by omega
          have hneg : ¬ (r : Int) + 1 < 0 := by omega
          have hneg0 : ¬ (r : Int) < 0 := by omega
          have hidx : ((r : Int) + 1).toNat = r + 1 := by omega
          go_upto_region 14 with fail
          refine wp_region_ask Try.mixedOrders (by kernel_rfl) (fun val => { tmps := #[_, _, _, _, _, _, _, _, _, _, val 15, val 16, _, _, _, _, _, _, _, _, _, _, _, _, _, _, _, _, _, _, _, _, _, _, _, _, _, _, _, _, _, _, _, _, _, _, _, val 0, val 1, val 2, val 3, val 4, val 5, val 6, val 7, val 8, val 9, val 10, val 11, val 12, val 13, val 14, _, _, _, _, _, _, _, _, _, _, _, _, _, _, _, _, _, _, _, _, _, _, _, _, _, _, _, _, _, _, _, _, _, _, _, _, _, _, _, _, _, _, _, _], defers := [] }) (fun i y V => match i with | 0 => y = .pointer (some ⟨tb, 0, none⟩) | 1 => y = .string s | 2 => y = .slice (some ⟨tg, to, none⟩) TS.length tc | 3 => y = .int .i64 ((r : Int) + 1) | 4 => y = .int .i64 (r : Int) | 5 => y = .pointer (some ⟨tg, to + r, none⟩) | 6 => y = .int .i64 XA | 7 => ∃ g c, y = .slice (some ⟨g, 0, none⟩) 1 c ∧ V.cell? ⟨g, 0, none⟩ = some (.int .i64 (pA : Int)) | 8 => y = .pointer (some ⟨tb, 0, none⟩) | 9 => y = .string s | 10 => y = .slice (some ⟨tg, to, none⟩) TS.length tc | 11 => y = .int .i64 ((r : Int) + 1) | 12 => y = .pointer (some ⟨tg, to + (r + 1), none⟩) | 13 => y = .int .i64 XB | 14 => ∃ g c, y = .slice (some ⟨g, 0, none⟩) 1 c ∧ V.cell? ⟨g, 0, none⟩ = some (.int .i64 (pB : Int)) | 15 => ∃ g c, y = .slice (some ⟨g, 0, none⟩) 1 c ∧ V.cell? ⟨g, 0, none⟩ = some (.int .i64 (pA : Int)) | 16 => ∃ g c, y = .slice (some ⟨g, 0, none⟩) 1 c ∧ V.cell? ⟨g, 0, none⟩ = some (.int .i64 (pB : Int)) | _ => True) (fun i => match i with | 0 => u47 | 1 => u48 | 2 => u49 | 3 => u50 | 4 => u51 | 5 => u52 | 6 => u53 | 7 => u54 | 8 => u55 | 9 => u56 | 10 => u57 | 11 => u58 | 12 => u59 | 13 => u60 | 14 => u61 | 15 => u10 | 16 => u11 | _ => undef) rfl ?_ _ rfl ⟨?_, ?_, ?_, ?_, ?_, ?_, ?_, ?_, ?_, ?_, ?_, ?_, ?_, ?_, ?_, ?_, ?_, trivial⟩ ?_
          · intro i y V V' hR hb
            match i, hR with
            | 0, hR => exact hR
            | 1, hR => exact hR
            | 2, hR => exact hR
            | 3, hR => exact hR
            | 4, hR => exact hR
            | 5, hR => exact hR
            | 6, hR => exact hR
            | 7, hR => obtain ⟨g, c, e, hc⟩ := hR; exact ⟨g, c, e, (hb.cell (p := ⟨g, 0, none⟩) (World.block_lt_of_cell? _ _ hc)).trans hc⟩
            | 8, hR => exact hR
            | 9, hR => exact hR
            | 10, hR => exact hR
            | 11, hR => exact hR
            | 12, hR => exact hR
            | 13, hR => exact hR
            | 14, hR => obtain ⟨g, c, e, hc⟩ := hR; exact ⟨g, c, e, (hb.cell (p := ⟨g, 0, none⟩) (World.block_lt_of_cell? _ _ hc)).trans hc⟩
            | 15, hR => obtain ⟨g, c, e, hc⟩ := hR; exact ⟨g, c, e, (hb.cell (p := ⟨g, 0, none⟩) (World.block_lt_of_cell? _ _ hc)).trans hc⟩
            | 16, hR => obtain ⟨g, c, e, hc⟩ := hR; exact ⟨g, c, e, (hb.cell (p := ⟨g, 0, none⟩) (World.block_lt_of_cell? _ _ hc)).trans hc⟩
            | i + 17, hR => exact trivial
          · refine ask_plain rfl (fun _ _ => rfl) fun val V hb hd => ?_
            refine does_value (v := .pointer (some ⟨tb, 0, none⟩)) ?_ rfl
            simp [execOp, Act.eval, go_sem]
          · refine ask_plain rfl (fun _ _ => rfl) fun val V hb hd => ?_
            refine does_value (v := .string s) ?_ rfl
            simp [execOp, Act.eval, go_sem]
          · refine ask_plain rfl (fun _ _ => rfl) fun val V hb hd => ?_
            refine does_value (v := .slice (some ⟨tg, to, none⟩) TS.length tc) ?_ rfl
            simp [execOp, Act.eval, go_sem]
          · refine ask_plain rfl (fun _ _ => rfl) fun val V hb hd => ?_
            refine does_value (v := .int .i64 ((r : Int) + 1)) ?_ rfl
            simp [execOp, Act.eval, go_sem]
          · refine ask_plain rfl (fun _ _ => rfl) fun val V hb hd => ?_
            have h3 : val 3 = .int .i64 ((r : Int) + 1) := depsAll_get hd 3 (by kernel_rfl)
            refine does_value (v := .int .i64 (r : Int)) ?_ rfl
            simp [execOp, Act.eval, go_sem, h3, hwr, hsub, hwr2]
          · refine ask_plain rfl (fun _ _ => rfl) fun val V hb hd => ?_
            have h2 : val 2 = .slice (some ⟨tg, to, none⟩) TS.length tc := depsAll_get hd 2 (by kernel_rfl)
            have h4 : val 4 = .int .i64 (r : Int) := depsAll_get hd 4 (by kernel_rfl)
            refine does_value (v := .pointer (some ⟨tg, to + r, none⟩)) ?_ rfl
            simp [execOp, Act.eval, go_sem, h2, h4, hrl0, hneg0]
          · refine ask_plain rfl (fun _ _ => rfl) fun val V hb hd => ?_
            have h5 : val 5 = .pointer (some ⟨tg, to + r, none⟩) := depsAll_get hd 5 (by kernel_rfl)
            have hc := (TK.out V hb).1
            refine does_value (v := .int .i64 XA) ?_ rfl
            simp [execOp, Act.eval, go_sem, h5, hc]
          · refine ask_plain rfl (fun _ _ => rfl) fun val V hb hd => ?_
            have h0 : val 0 = .pointer (some ⟨tb, 0, none⟩) := depsAll_get hd 0 (by kernel_rfl)
            have h1 : val 1 = .string s := depsAll_get hd 1 (by kernel_rfl)
            have h6 : val 6 = .int .i64 XA := depsAll_get hd 6 (by kernel_rfl)
            refine does_call (f := 24) (args := #[.pointer (some ⟨tb, 0, none⟩), .string s, .int .i64 XA]) ?_ (WA.out V hb) ?_
            · simp [execOp, Act.eval, go_sem, h0, h1, h6]
            · rintro e w2 ⟨g, c, rfl, hc, b2⟩
              exact ⟨_, rfl, ⟨g, c, rfl, hc⟩, b2⟩
          · refine ask_plain rfl (fun _ _ => rfl) fun val V hb hd => ?_
            refine does_value (v := .pointer (some ⟨tb, 0, none⟩)) ?_ rfl
            simp [execOp, Act.eval, go_sem]
          · refine ask_plain rfl (fun _ _ => rfl) fun val V hb hd => ?_
            refine does_value (v := .string s) ?_ rfl
            simp [execOp, Act.eval, go_sem]
          · refine ask_plain rfl (fun _ _ => rfl) fun val V hb hd => ?_
            refine does_value (v := .slice (some ⟨tg, to, none⟩) TS.length tc) ?_ rfl
            simp [execOp, Act.eval, go_sem]
          · refine ask_plain rfl (fun _ _ => rfl) fun val V hb hd => ?_
            refine does_value (v := .int .i64 ((r : Int) + 1)) ?_ rfl
            simp [execOp, Act.eval, go_sem]
          · refine ask_plain rfl (fun _ _ => rfl) fun val V hb hd => ?_
            have h10 : val 10 = .slice (some ⟨tg, to, none⟩) TS.length tc := depsAll_get hd 10 (by kernel_rfl)
            have h11 : val 11 = .int .i64 ((r : Int) + 1) := depsAll_get hd 11 (by kernel_rfl)
            refine does_value (v := .pointer (some ⟨tg, to + (r + 1), none⟩)) ?_ rfl
            simp [execOp, Act.eval, go_sem, h10, h11, hrli, hneg, hidx]
          · refine ask_plain rfl (fun _ _ => rfl) fun val V hb hd => ?_
            have h12 : val 12 = .pointer (some ⟨tg, to + (r + 1), none⟩) := depsAll_get hd 12 (by kernel_rfl)
            have hc := (TK.out V hb).2
            refine does_value (v := .int .i64 XB) ?_ rfl
            simp [execOp, Act.eval, go_sem, h12, hc]
          · refine ask_plain rfl (fun _ _ => rfl) fun val V hb hd => ?_
            have h8 : val 8 = .pointer (some ⟨tb, 0, none⟩) := depsAll_get hd 8 (by kernel_rfl)
            have h9 : val 9 = .string s := depsAll_get hd 9 (by kernel_rfl)
            have h13 : val 13 = .int .i64 XB := depsAll_get hd 13 (by kernel_rfl)
            refine does_call (f := 24) (args := #[.pointer (some ⟨tb, 0, none⟩), .string s, .int .i64 XB]) ?_ (WB.out V hb) ?_
            · simp [execOp, Act.eval, go_sem, h8, h9, h13]
            · rintro e w2 ⟨g, c, rfl, hc, b2⟩
              exact ⟨_, rfl, ⟨g, c, rfl, hc⟩, b2⟩
          · refine ask_plain rfl (fun _ _ => rfl) fun val V hb hd => ?_
            have h7 := depsAll_get hd 7 (by kernel_rfl)
            exact does_value (v := val 7) rfl h7
          · refine ask_plain rfl (fun _ _ => rfl) fun val V hb hd => ?_
            have h14 := depsAll_get hd 14 (by kernel_rfl)
            exact does_value (v := val 14) rfl h14
          intro val W hbW hR
          obtain ⟨ga, ca, e15, xga⟩ := hR 15 (by decide)
          obtain ⟨gb, cb, e16, xgb⟩ := hR 16 (by decide)
          obtain ⟨xa, xb⟩ := TK.out W hbW
          rw [e15, e16]
          have BW13 : Hid (Below w13.heap.size w13 W) := BQ.out.trans (hbW.mono BQ.out.size)
          generalize val 0 = t0, val 1 = t1, val 2 = t2, val 3 = t3, val 4 = t4, val 5 = t5, val 6 = t6, val 7 = t7, val 8 = t8, val 9 = t9, val 10 = t10, val 11 = t11, val 12 = t12, val 13 = t13, val 14 = t14
          clear hR e15 e16 hbW WA WB TK BQ BQ8
          go_upto_region 17 with fail
          refine wp_region_two Try.mixedOrders (by kernel_rfl) 8 19 20 (by decide) (by decide) (fun b1 b2 V => (b1 = false → V = W.drew) ∧ (b1 = true → b2 = false → V = W.drew.alloc (.cells #[.int .i64 0, .int .i64 0, .int .i64 0, .string ⟨#[]⟩, .int .i64 0, .int .i64 0, .bool false, .bool false] 40))) ⟨fun _ => rfl, fun c => (by cases c)⟩ (fun val => { tmps := #[_, _, _, _, _, _, _, _, _, _, _, _, val 19, _, _, _, _, _, _, _, _, _, _, _, _, _, _, _, _, _, _, _, _, _, _, _, _, _, _, _, _, _, _, _, _, _, _, _, _, _, _, _, _, _, _, _, _, _, _, _, _, _, _, _, _, _, _, _, _, _, val 0, val 1, val 2, val 3, val 4, val 5, val 6, val 7, val 8, val 9, val 10, val 11, val 12, val 13, val 14, val 15, val 16, val 17, val 18, _, _, _, _, _, _, _, _, _, _, _, _, _, _, _, _, _], defers := [] }) (fun i y V => match i with | 0 => y = .slice (some ⟨ga, 0, none⟩) 1 ca | 1 => y = .pointer (some ⟨ga, 0, none⟩) | 2 => y = .pointer (some ⟨ga, 0, none⟩) | 3 => y = .int .i64 (pA : Int) | 4 => y = .slice (some ⟨gb, 0, none⟩) 1 cb | 5 => y = .pointer (some ⟨gb, 0, none⟩) | 6 => y = .pointer (some ⟨gb, 0, none⟩) | 7 => y = .int .i64 (pB : Int) | 8 => y = .string s | 9 => y = .slice (some ⟨tg, to, none⟩) TS.length tc | 10 => y = .int .i64 ((r : Int) + 1) | 11 => y = .int .i64 (r : Int) | 12 => y = .pointer (some ⟨tg, to + r, none⟩) | 13 => y = .int .i64 XA | 14 => y = .slice (some ⟨tg, to, none⟩) TS.length tc | 15 => y = .int .i64 ((r : Int) + 1) | 16 => y = .pointer (some ⟨tg, to + (r + 1), none⟩) | 17 => y = .int .i64 XB | 18 => y = .agg #[.int .i64 (pA : Int), .int .i64 (pB : Int), .int .i64 1, .string s, .int .i64 XA, .int .i64 XB, .bool false, .bool false] | 19 => y = .pointer (some ⟨W.heap.size, 0, none⟩) | 20 => V = W.drew.alloc (.cells #[.int .i64 (pA : Int), .int .i64 (pB : Int), .int .i64 1, .string s, .int .i64 XA, .int .i64 XB, .bool false, .bool false] 40) | _ => True) (fun i => match i with | 0 => u70 | 1 => u71 | 2 => u72 | 3 => u73 | 4 => u74 | 5 => u75 | 6 => u76 | 7 => u77 | 8 => u78 | 9 => u79 | 10 => u80 | 11 => u81 | 12 => u82 | 13 => u83 | 14 => u84 | 15 => u85 | 16 => u86 | 17 => u87 | 18 => u88 | 19 => u12 | 20 => undef | _ => undef) rfl _ rfl ⟨?_, ?_, ?_, ?_, ?_, ?_, ?_, ?_, ?_, ?_, ?_, ?_, ?_, ?_, ?_, ?_, ?_, ?_, ?_, ?_, ?_, trivial⟩ ?_
          · refine ⟨rfl, fun _ _ => rfl, fun val V b1 b2 hg n1 n2 a1 v0 hd => ?_⟩
            refine does2_value (v := .slice (some ⟨ga, 0, none⟩) 1 ca) hg rfl rfl ?_ rfl
            simp [execOp, Act.eval, go_sem]
          · refine ⟨rfl, fun _ _ => rfl, fun val V b1 b2 hg n1 n2 a1 v0 hd => ?_⟩
            have h0 : val 0 = .slice (some ⟨ga, 0, none⟩) 1 ca := depsAll_get hd 0 (by kernel_rfl)
            refine does2_value (v := .pointer (some ⟨ga, 0, none⟩)) hg rfl rfl ?_ rfl
            simp [execOp, Act.eval, go_sem, h0]
          · refine ⟨rfl, fun _ _ => rfl, fun val V b1 b2 hg n1 n2 a1 v0 hd => ?_⟩
            have h1 : val 1 = .pointer (some ⟨ga, 0, none⟩) := depsAll_get hd 1 (by kernel_rfl)
            refine does2_value (v := .pointer (some ⟨ga, 0, none⟩)) hg rfl rfl ?_ rfl
            simp [execOp, Act.eval, go_sem, h1]
          · refine ⟨rfl, fun _ _ => rfl, fun val V b1 b2 hg n1 n2 a1 v0 hd => ?_⟩
            have h2 : val 2 = .pointer (some ⟨ga, 0, none⟩) := depsAll_get hd 2 (by kernel_rfl)
            have hb2 := n2 (by kernel_rfl)
            have hc : V.cell? ⟨ga, 0, none⟩ = some (.int .i64 (pA : Int)) := by
              cases b1 with
              | false => rw [hg.1 rfl]; exact xga
              | true => rw [hg.2 rfl hb2]; exact Lib.cell?_alloc_some _ xga
            refine does2_value (v := .int .i64 (pA : Int)) hg rfl rfl ?_ rfl
            simp [execOp, Act.eval, go_sem, h2, hc]
          · refine ⟨rfl, fun _ _ => rfl, fun val V b1 b2 hg n1 n2 a1 v0 hd => ?_⟩
            refine does2_value (v := .slice (some ⟨gb, 0, none⟩) 1 cb) hg rfl rfl ?_ rfl
            simp [execOp, Act.eval, go_sem]
          · refine ⟨rfl, fun _ _ => rfl, fun val V b1 b2 hg n1 n2 a1 v0 hd => ?_⟩
            have h4 : val 4 = .slice (some ⟨gb, 0, none⟩) 1 cb := depsAll_get hd 4 (by kernel_rfl)
            refine does2_value (v := .pointer (some ⟨gb, 0, none⟩)) hg rfl rfl ?_ rfl
            simp [execOp, Act.eval, go_sem, h4]
          · refine ⟨rfl, fun _ _ => rfl, fun val V b1 b2 hg n1 n2 a1 v0 hd => ?_⟩
            have h5 : val 5 = .pointer (some ⟨gb, 0, none⟩) := depsAll_get hd 5 (by kernel_rfl)
            refine does2_value (v := .pointer (some ⟨gb, 0, none⟩)) hg rfl rfl ?_ rfl
            simp [execOp, Act.eval, go_sem, h5]
          · refine ⟨rfl, fun _ _ => rfl, fun val V b1 b2 hg n1 n2 a1 v0 hd => ?_⟩
            have h6 : val 6 = .pointer (some ⟨gb, 0, none⟩) := depsAll_get hd 6 (by kernel_rfl)
            have hb2 := n2 (by kernel_rfl)
            have hc : V.cell? ⟨gb, 0, none⟩ = some (.int .i64 (pB : Int)) := by
              cases b1 with
              | false => rw [hg.1 rfl]; exact xgb
              | true => rw [hg.2 rfl hb2]; exact Lib.cell?_alloc_some _ xgb
            refine does2_value (v := .int .i64 (pB : Int)) hg rfl rfl ?_ rfl
            simp [execOp, Act.eval, go_sem, h6, hc]
          · refine ⟨rfl, fun _ _ => rfl, fun val V b1 b2 hg n1 n2 a1 v0 hd => ?_⟩
            refine does2_value (v := .string s) hg rfl rfl ?_ rfl
            simp [execOp, Act.eval, go_sem]
          · refine ⟨rfl, fun _ _ => rfl, fun val V b1 b2 hg n1 n2 a1 v0 hd => ?_⟩
            refine does2_value (v := .slice (some ⟨tg, to, none⟩) TS.length tc) hg rfl rfl ?_ rfl
            simp [execOp, Act.eval, go_sem]
          · refine ⟨rfl, fun _ _ => rfl, fun val V b1 b2 hg n1 n2 a1 v0 hd => ?_⟩
            refine does2_value (v := .int .i64 ((r : Int) + 1)) hg rfl rfl ?_ rfl
            simp [execOp, Act.eval, go_sem]
          · refine ⟨rfl, fun _ _ => rfl, fun val V b1 b2 hg n1 n2 a1 v0 hd => ?_⟩
            have h10 : val 10 = .int .i64 ((r : Int) + 1) := depsAll_get hd 10 (by kernel_rfl)
            refine does2_value (v := .int .i64 (r : Int)) hg rfl rfl ?_ rfl
            simp [execOp, Act.eval, go_sem, h10, hwr, hsub, hwr2]
          · refine ⟨rfl, fun _ _ => rfl, fun val V b1 b2 hg n1 n2 a1 v0 hd => ?_⟩
            have h9 : val 9 = .slice (some ⟨tg, to, none⟩) TS.length tc := depsAll_get hd 9 (by kernel_rfl)
            have h11 : val 11 = .int .i64 (r : Int) := depsAll_get hd 11 (by kernel_rfl)
            refine does2_value (v := .pointer (some ⟨tg, to + r, none⟩)) hg rfl rfl ?_ rfl
            simp [execOp, Act.eval, go_sem, h9, h11, hrl0, hneg0]
          · refine ⟨rfl, fun _ _ => rfl, fun val V b1 b2 hg n1 n2 a1 v0 hd => ?_⟩
            have h12 : val 12 = .pointer (some ⟨tg, to + r, none⟩) := depsAll_get hd 12 (by kernel_rfl)
            have hb2 := n2 (by kernel_rfl)
            have hc : V.cell? ⟨tg, to + r, none⟩ = some (.int .i64 XA) := by
              cases b1 with
              | false => rw [hg.1 rfl]; exact xa
              | true => rw [hg.2 rfl hb2]; exact Lib.cell?_alloc_some _ xa
            refine does2_value (v := .int .i64 XA) hg rfl rfl ?_ rfl
            simp [execOp, Act.eval, go_sem, h12, hc]
          · refine ⟨rfl, fun _ _ => rfl, fun val V b1 b2 hg n1 n2 a1 v0 hd => ?_⟩
            refine does2_value (v := .slice (some ⟨tg, to, none⟩) TS.length tc) hg rfl rfl ?_ rfl
            simp [execOp, Act.eval, go_sem]
          · refine ⟨rfl, fun _ _ => rfl, fun val V b1 b2 hg n1 n2 a1 v0 hd => ?_⟩
            refine does2_value (v := .int .i64 ((r : Int) + 1)) hg rfl rfl ?_ rfl
            simp [execOp, Act.eval, go_sem]
          · refine ⟨rfl, fun _ _ => rfl, fun val V b1 b2 hg n1 n2 a1 v0 hd => ?_⟩
            have h14 : val 14 = .slice (some ⟨tg, to, none⟩) TS.length tc := depsAll_get hd 14 (by kernel_rfl)
            have h15 : val 15 = .int .i64 ((r : Int) + 1) := depsAll_get hd 15 (by kernel_rfl)
            refine does2_value (v := .pointer (some ⟨tg, to + (r + 1), none⟩)) hg rfl rfl ?_ rfl
            simp [execOp, Act.eval, go_sem, h14, h15, hrli, hneg, hidx]
          · refine ⟨rfl, fun _ _ => rfl, fun val V b1 b2 hg n1 n2 a1 v0 hd => ?_⟩
            have h16 : val 16 = .pointer (some ⟨tg, to + (r + 1), none⟩) := depsAll_get hd 16 (by kernel_rfl)
            have hb2 := n2 (by kernel_rfl)
            have hc : V.cell? ⟨tg, to + (r + 1), none⟩ = some (.int .i64 XB) := by
              cases b1 with
              | false => rw [hg.1 rfl]; exact xb
              | true => rw [hg.2 rfl hb2]; exact Lib.cell?_alloc_some _ xb
            refine does2_value (v := .int .i64 XB) hg rfl rfl ?_ rfl
            simp [execOp, Act.eval, go_sem, h16, hc]
          · refine ⟨rfl, fun _ _ => rfl, fun val V b1 b2 hg n1 n2 a1 v0 hd => ?_⟩
            have h3 : val 3 = .int .i64 (pA : Int) := depsAll_get hd 3 (by kernel_rfl)
            have h7 : val 7 = .int .i64 (pB : Int) := depsAll_get hd 7 (by kernel_rfl)
            have h8 : val 8 = .string s := depsAll_get hd 8 (by kernel_rfl)
            have h13 : val 13 = .int .i64 XA := depsAll_get hd 13 (by kernel_rfl)
            have h17 : val 17 = .int .i64 XB := depsAll_get hd 17 (by kernel_rfl)
            refine does2_value (v := .agg #[.int .i64 (pA : Int), .int .i64 (pB : Int), .int .i64 1, .string s, .int .i64 XA, .int .i64 XB, .bool false, .bool false]) hg rfl rfl ?_ rfl
            simp [execOp, Act.eval, go_sem, h3, h7, h8, h13, h17]
          · refine ⟨rfl, fun _ _ => rfl, fun val V b1 b2 hg n1 n2 a1 v0 hd => ?_⟩
            obtain rfl : V = W.drew := hg.1 (n1 (by kernel_rfl))
            refine does2_grown (v := .pointer (some ⟨W.heap.size, 0, none⟩)) (w' := W.drew.alloc (.cells #[.int .i64 0, .int .i64 0, .int .i64 0, .string ⟨#[]⟩, .int .i64 0, .int .i64 0, .bool false, .bool false] 40)) ?_ rfl ⟨fun c => (by simp at c), fun _ _ => rfl⟩ ?_
            · simp [execOp, Act.eval, go_sem]
            · intro j y hj hne hnd hr
              match j, hj, hne, hnd, hr with
              | 0, _, _, _, hr => exact hr
              | 1, _, _, _, hr => exact hr
              | 2, _, _, _, hr => exact hr
              | 3, _, _, _, hr => exact hr
              | 4, _, _, _, hr => exact hr
              | 5, _, _, _, hr => exact hr
              | 6, _, _, _, hr => exact hr
              | 7, _, _, _, hr => exact hr
              | 8, _, _, _, hr => exact hr
              | 9, _, _, _, hr => exact hr
              | 10, _, _, _, hr => exact hr
              | 11, _, _, _, hr => exact hr
              | 12, _, _, _, hr => exact hr
              | 13, _, _, _, hr => exact hr
              | 14, _, _, _, hr => exact hr
              | 15, _, _, _, hr => exact hr
              | 16, _, _, _, hr => exact hr
              | 17, _, _, _, hr => exact hr
              | 18, _, _, _, hr => exact hr
              | 19, _, hne, _, _ => exact absurd rfl hne
              | 20, _, _, hnd, _ => exact absurd hnd (by decide +kernel)
              | j + 21, hj, _, _, _ => exact absurd hj (by simp)
          · refine ⟨rfl, fun _ _ => rfl, fun val V b1 b2 hg n1 n2 a1 v0 hd => ?_⟩
            have h18 : val 18 = .agg #[.int .i64 (pA : Int), .int .i64 (pB : Int), .int .i64 1, .string s, .int .i64 XA, .int .i64 XB, .bool false, .bool false] := depsAll_get hd 18 (by kernel_rfl)
            have h19 : val 19 = .pointer (some ⟨W.heap.size, 0, none⟩) := depsAll_get hd 19 (by kernel_rfl)
            obtain rfl : b1 = true := a1 (by kernel_rfl)
            obtain rfl : b2 = false := n2 (by kernel_rfl)
            obtain rfl : V = W.drew.alloc (.cells #[.int .i64 0, .int .i64 0, .int .i64 0, .string ⟨#[]⟩, .int .i64 0, .int .i64 0, .bool false, .bool false] 40) := hg.2 rfl rfl
            refine does2_skip (w' := W.drew.alloc (.cells #[.int .i64 (pA : Int), .int .i64 (pB : Int), .int .i64 1, .string s, .int .i64 XA, .int .i64 XB, .bool false, .bool false] 40)) ?_ rfl ⟨fun c => (by simp at c), fun _ c => (by simp at c)⟩ ?_
            · simp [execOp, Act.eval, go_sem, h18, h19]
            · intro j y hj hne hnd hr
              match j, hj, hne, hnd, hr with
              | 0, _, _, _, hr => exact hr
              | 1, _, _, _, hr => exact hr
              | 2, _, _, _, hr => exact hr
              | 3, _, _, _, hr => exact hr
              | 4, _, _, _, hr => exact hr
              | 5, _, _, _, hr => exact hr
              | 6, _, _, _, hr => exact hr
              | 7, _, _, _, hr => exact hr
              | 8, _, _, _, hr => exact hr
              | 9, _, _, _, hr => exact hr
              | 10, _, _, _, hr => exact hr
              | 11, _, _, _, hr => exact hr
              | 12, _, _, _, hr => exact hr
              | 13, _, _, _, hr => exact hr
              | 14, _, _, _, hr => exact hr
              | 15, _, _, _, hr => exact hr
              | 16, _, _, _, hr => exact hr
              | 17, _, _, _, hr => exact hr
              | 18, _, _, _, hr => exact hr
              | 19, _, _, _, hr => exact hr
              | 20, _, hne, _, _ => exact absurd rfl hne
              | j + 21, hj, _, _, _ => exact absurd hj (by simp)
          intro val w6 hG6 hR
          have hw6 : w6 = W.drew.alloc (.cells #[.int .i64 (pA : Int), .int .i64 (pB : Int), .int .i64 1, .string s, .int .i64 XA, .int .i64 XB, .bool false, .bool false] 40) := hR 20 (by decide)
          have h19 : val 19 = .pointer (some ⟨W.heap.size, 0, none⟩) := hR 19 (by decide)
          rw [h19]
          subst hw6
          generalize val 0 = t0, val 1 = t1, val 2 = t2, val 3 = t3, val 4 = t4, val 5 = t5, val 6 = t6, val 7 = t7, val 8 = t8, val 9 = t9, val 10 = t10, val 11 = t11, val 12 = t12, val 13 = t13, val 14 = t14, val 15 = t15, val 16 = t16, val 17 = t17, val 18 = t18
          have PB : Hid ((W.drew.alloc (.cells #[.int .i64 (pA : Int), .int .i64 (pB : Int), .int .i64 1, .string s, .int .i64 XA, .int .i64 XB, .bool false, .bool false] 40)).heap[W.heap.size]? = some (.cells #[.int .i64 (pA : Int), .int .i64 (pB : Int), .int .i64 1, .string s, .int .i64 XA, .int .i64 XB, .bool false, .bool false] 40)) := heap_alloc_new W.drew _
          have B6 : Hid (Below w13.heap.size w13 (W.drew.alloc (.cells #[.int .i64 (pA : Int), .int .i64 (pB : Int), .int .i64 1, .string s, .int .i64 XA, .int .i64 XB, .bool false, .bool false] 40))) := BW13.out.trans ⟨rfl, rfl, rfl, (by rw [alloc_size]; exact Nat.le_succ _), fun b hb => by rw [alloc_at, if_neg (show ¬ b = W.drew.heap.size from by show ¬ b = W.heap.size; have := BW13.out.size; omega)]; rfl⟩
          clear hR h19 hG6 xga xgb xa xb BW13
          generalize (W.drew.alloc (.cells #[.int .i64 (pA : Int), .int .i64 (pB : Int), .int .i64 1, .string s, .int .i64 XA, .int .i64 XB, .bool false, .bool false] 40)) = W6 at *
          generalize W.heap.size = pb at *
          have p0 : W6.cell? ⟨pb, 0, none⟩ = some (.int .i64 (pA : Int)) := Lib.cell_of_heap PB.out 0
          have p1 : W6.cell? ⟨pb, 1, none⟩ = some (.int .i64 (pB : Int)) := Lib.cell_of_heap PB.out 1
          have p2 : W6.cell? ⟨pb, 2, none⟩ = some (.int .i64 1) := Lib.cell_of_heap PB.out 2
          have p3 : W6.cell? ⟨pb, 3, none⟩ = some (.string s) := Lib.cell_of_heap PB.out 3
          have p4 : W6.cell? ⟨pb, 4, none⟩ = some (.int .i64 XA) := Lib.cell_of_heap PB.out 4
          have p5 : W6.cell? ⟨pb, 5, none⟩ = some (.int .i64 XB) := Lib.cell_of_heap PB.out 5
          have p6 : W6.cell? ⟨pb, 6, none⟩ = some (.bool false) := Lib.cell_of_heap PB.out 6
          have p7 : W6.cell? ⟨pb, 7, none⟩ = some (.bool false) := Lib.cell_of_heap PB.out 7
          have hw1 : IntKind.i64.wrap ((r : Int) + 1 + 1) = (r : Int) + 1 + 1 := by rw [IntKind.wrap_i64]; omega
          by_cases hpp : pA = pB
          · subst hpp
            have hpe : ((pA : Int) == (pA : Int)) = true := by simp
            have hpn : ((pA : Int) != (pA : Int)) = false := by simp
            clear CH hwr hwr2 hsub hneg hneg0 hidx
            go_wp2_with fail
            go_roundg (TS.length - (r + 1))
            case measure => omega
            case rel => exact ⟨r + 1, by omega, by omega, by go_num, B6.out⟩
          · have hpi : ¬ (pA : Int) = (pB : Int) := by omega
            have hpe : ((pA : Int) == (pB : Int)) = false := by simpa using hpi
            have hpn : ((pA : Int) != (pB : Int)) = true := by simpa using hpi
            have CW := hid (contW_is ea ec E _ W6 (O13.out.later B6.out) (by omega) (CH.out hpp))
            simp only [whyV] at CW
            clear CH hwr hwr2 hsub hneg hneg0 hidx hpp
            go_wp2_with (go_at_call 25; refine CW.out.mono ?_; rintro e w7 ⟨rfl, b7⟩; have B7 := hid (B6.out.trans (b7.mono B6.out.size)); clear b7)
            go_roundg (TS.length - (r + 1))
            case measure => omega
            case rel => exact ⟨r + 1, by omega, by omega, by go_num, B7.out⟩
        · have hrli : ¬ (r : Int) + 1 < (TS.length : Int) := by omega
          go_wp2_with fail
          go_roundg (KN - (k + 1))
          case measure => omega
          case rel => exact ⟨k + 1, by omega, by omega, by go_num, BQ8.out⟩
    · have hke : k = KN := by omega
      have hlti : ¬ (k : Int) < (KN : Int) := by omega
      have hce : ((L.length : Int) == (L.length : Int)) = true := by simp
      clear hke
      go_wp2_with (go_at_call 21; refine (CO.out _ BR.out).mono ?_; rintro e w11 ⟨rfl, rfl⟩)
      go_ret
      exact ⟨rfl, B8.out.trans (BR.out.mono B8.out.size)⟩
end Go.Proofs.Ytnfbcmnlloipiaa
namespace Go.Proofs.Ytnfbcmnlloipiaa.Tx
set_option linter.unusedVariables false
set_option linter.unusedSimpArgs false
open Go.RowKit Go.ChangeShapes Go.WideShapes

theorem Try.cells4 : Try.prog.cellsOf 4 = 1 := by kernel_rfl
theorem Try.cells28 : Try.prog.cellsOf 28 = 1 := by kernel_rfl
theorem Try.cells49 : Try.prog.cellsOf 49 = 6 := by kernel_rfl
theorem Try.cells3 : Try.prog.cellsOf 3 = 1 := by kernel_rfl
theorem Try.cells9 : Try.prog.cellsOf 9 = 1 := by kernel_rfl
theorem Try.cells45 : Try.prog.cellsOf 45 = 1 := by kernel_rfl
theorem Try.cells47 : Try.prog.cellsOf 47 = 5 := by kernel_rfl
theorem Try.bytes47 : Try.prog.bytesOf 47 = 56 := by kernel_rfl
theorem Try.bytes3 : Try.prog.bytesOf 3 = 8 := by kernel_rfl
theorem Try.bytes49 : Try.prog.bytesOf 49 = 64 := by kernel_rfl

section
variable {H : Type} {enc : TypeId × Value → H} {P : Program} {w : World} {base : Nat} {spare : Nat → Bool} {held : Bool}

theorem weightsAll_mem {e : TypeId} {n : Nat} {d : DataW H} : ∀ {ds : List (DataW H)}, d ∈ ds → n ∈ d.weights P e → n ∈ DataW.weightsAll P e ds
  | [], hd, _ => by simp at hd
  | x :: ds, hd, hn => by
    simp only [DataW.weightsAll, List.mem_append]
    rcases List.mem_cons.1 hd with rfl | hd
    · exact Or.inl hn
    · exact Or.inr (weightsAll_mem hd hn)

/-- A slice of elements of k cells, each of which can be read. -/
theorem rows_of_trod {α : Type} [Inhabited α] {t e : TypeId} {k bytes fuel : Nat} {R : List Value → α → Prop} {cs : List Value} {x : DataW H × List MemPlace}
    (ht : P.underlying t = some (.slice e)) (hk : P.cellsOf e = k) (hk0 : 0 < k) (hby : P.bytesOf e = bytes)
    (h : DataW.trod enc P w base spare held fuel t cs = some x) (hw : ∀ n ∈ x.1.weights P t, n ≤ reachBytes)
    (he : ∀ (n : Nat) (cs' : List Value) (y : DataW H × List MemPlace), cs'.length = k → DataW.trod enc P w base spare held n e cs' = some y → (∀ n ∈ y.1.weights P e, n ≤ reachBytes) → ∃ a : α, R cs' a) :
    ∃ v l, cs = [v] ∧ RowsIn k bytes R Any w v l := by
  rcases Deep.open_slice ht h with ⟨rfl, rfl⟩ | ⟨a, len, cap, m, n, D, Pl, rfl, hb, hl, hm, hmm, rfl, hx⟩
  · exact ⟨_, [], rfl, none, 0, rfl, ⟨by simp, Nat.le_refl _⟩, fun h => by simp at h⟩
  · have hlm : len ≤ m := by rw [hmm]; split <;> omega
    rw [hk] at hx
    have key : ∀ i, i < len → ∃ q : α × List Value, q.2.length = k ∧ R q.2 q.1 ∧ ∀ j, j < k → w.cell? (a.add (i * k + j)) = q.2[j]? := fun i hi => by
      obtain ⟨cs', h1, h2⟩ := hx i (by omega)
      obtain ⟨_, hlen, hc⟩ := World.cells?_some h1
      obtain ⟨y, hy⟩ := he n cs' _ hlen h2 (fun q hq => hw q (by
        simp only [DataW.weights, ht, List.mem_cons, List.mem_append]
        exact Or.inr (Or.inl (weightsAll_mem (d := D i) (by simp; exact ⟨i, hi, rfl⟩) hq))))
      exact ⟨(y, cs'), hlen, hy, fun j hj => by rw [← Deep.add_add]; exact hc j hj⟩
    obtain ⟨f, hf⟩ := Deep.choose_lt (α := α × List Value) key
    refine ⟨_, (List.range len).map (fun i => (f i).1), rfl, some a, cap, by simp, ⟨?_, by simpa using hl⟩, fun h0 => ?_⟩
    · have := hw ((len + (m - len)) * P.bytesOf e) (by simp [DataW.weights, ht])
      rw [hby] at this
      simp only [List.length_map, List.length_range]
      have h2 : len * bytes ≤ (len + (m - len)) * bytes := Nat.mul_le_mul_right _ (by omega)
      have h3 : reachBytes ≤ 140737488355328 := by decide
      omega
    · simp only [List.length_map, List.length_range] at h0
      obtain ⟨b, off, spot⟩ := a
      have hspot : spot = none := by
        obtain ⟨h1, _, h3⟩ := hf 0 h0
        have := h3 0 hk0
        rw [List.getElem?_eq_getElem (by omega)] at this
        simpa [Addr.add] using World.cell?_spot this
      subst hspot
      refine ⟨b, off, rfl, trivial, fun j hj => ?_⟩
      simp only [List.length_map, List.length_range] at hj
      obtain ⟨h1, h2, h3⟩ := hf j hj
      refine ⟨(f j).2, h1, ?_, fun i u hi => ?_⟩
      · simpa [List.getD, hj] using h2
      · have hik : i < k := by rw [← h1]; exact (List.getElem?_eq_some_iff.1 hi).1
        have := h3 i hik
        rw [Addr.add_lit, hi] at this
        simpa [Nat.add_assoc] using this
end

/-- What holds of each row's element holds of each element. -/
theorem rows_all {α : Type} [Inhabited α] {k bytes : Nat} {R : List Value → α → Prop} {C : α → Prop} {S : Nat → Prop} {w : World} {v : Value} {l : List α} (h : RowsIn k bytes (fun cs a => R cs a ∧ C a) S w v l) : RowsIn k bytes R S w v l ∧ ∀ a ∈ l, C a := by
  obtain ⟨ao, c, hv, hl, hc⟩ := h
  refine ⟨⟨ao, c, hv, hl, fun h0 => ?_⟩, fun a ha => ?_⟩
  · obtain ⟨b, off, e1, e2, hj⟩ := hc h0
    refine ⟨b, off, e1, e2, fun j hlt => ?_⟩
    obtain ⟨cs, q1, q2, q3⟩ := hj j hlt
    exact ⟨cs, q1, q2.1, q3⟩
  · obtain ⟨j, hj, e⟩ := List.mem_iff_getElem.1 ha
    obtain ⟨b, off, _, _, hcc⟩ := hc (by omega)
    obtain ⟨cs, _, q2, _⟩ := hcc j hj
    have : l.getD j default = a := by simp [List.getD, List.getElem?_eq_getElem hj, e]
    rw [this] at q2
    exact q2.2


/-- An operation that a machine can hold. -/
def OpFit (o : MOp) : Prop := o.key.size ≤ 281474976710656 ∧ o.list.length * 8 ≤ 140737488355328 ∧ (Lit.int .i64 o.value).wf = true ∧ ∀ x ∈ o.list, (Lit.int .i64 x).wf = true

section
variable {H : Type} {enc : TypeId × Value → H} {w : World} {base : Nat} {spare : Nat → Bool} {held : Bool}

/-- A list of ints. -/
theorem ints_of_trod {fuel : Nat} {cs : List Value} {x : DataW H × List MemPlace} (h : DataW.trod enc Try.prog w base spare held fuel 28 cs = some x) (hw : ∀ n ∈ x.1.weights Try.prog 28, n ≤ reachBytes) :
    ∃ v l, cs = [v] ∧ IntsIn Any w v l ∧ ∀ x ∈ l, (Lit.int .i64 x).wf = true := by
  obtain ⟨v, l, hv, hr⟩ := rows_of_trod (R := fun cs (a : Int) => cs = [.int .i64 a] ∧ (Lit.int .i64 a).wf = true) (k := 1) (bytes := 8) Try.underlying28 Try.cells3 (by omega) Try.bytes3 h hw (fun n cs' y hlen hy _ => by
    obtain ⟨z, hz, _, hz2⟩ := DataW.trod_int Try.underlying3 hy
    exact ⟨z, hz, hz2⟩)
  obtain ⟨hr, hwf⟩ := rows_all hr
  obtain ⟨ao, c, hvv, hl, hc⟩ := hr
  refine ⟨v, l, hv, ⟨ao, c, hvv, hl, fun h0 => ?_⟩, hwf⟩
  obtain ⟨b, off, ha, _, hj⟩ := hc h0
  refine ⟨b, off, ha, trivial, fun j hlt => ?_⟩
  obtain ⟨cs', _, hcs, hcc⟩ := hj j hlt
  have := hcc 0 (.int .i64 (l.getD j default)) (by rw [hcs]; rfl)
  simpa using this

set_option maxRecDepth 10000 in
/-- An operation's six cells. -/
theorem op_of_trod (n : Nat) (cs : List Value) (y : DataW H × List MemPlace) (hlen : cs.length = 6) (h : DataW.trod enc Try.prog w base spare held n 49 cs = some y) (hw : ∀ n ∈ y.1.weights Try.prog 49, n ≤ reachBytes) :
    ∃ a : MOp, OpRow Any w cs a ∧ OpFit a := by
  obtain ⟨xs, m, rfl, rfl, _, hxl, hf⟩ := DataW.trod_struct Try.underlying49 h
  match cs, hlen with
  | [c0, c1, c2, c3, c4, c5], _ =>
    match xs, hxl with
    | [x0, x1, x2, x3, x4, x5], _ =>
      have f0 := hf 0 _ rfl
      have f1 := hf 1 _ rfl
      have f2 := hf 2 _ rfl
      have f3 := hf 3 _ rfl
      have f4 := hf 4 _ rfl
      have f5 := hf 5 _ rfl
      simp [Try.cells3, Try.cells4, Try.cells9, Try.cells28] at f0 f1 f2 f3 f4 f5
      obtain ⟨k, e0, _⟩ := DataW.trod_int Try.underlying3 f0
      obtain ⟨s, e1, g1, _⟩ := DataW.trod_string Try.underlying9 f1
      obtain ⟨v, e2, _, wv⟩ := DataW.trod_int Try.underlying3 f2
      obtain ⟨lv, l, e3, hl, hlw⟩ := ints_of_trod f3 (fun n hn => hw n (by
        simp only [DataW.weights, Try.underlying49]
        exact DataW.weights_mem_each (j := 3) rfl rfl n hn))
      have hks : s.size ≤ reachBytes := by
        have := hw s.data.toList.length (by
          simp only [DataW.weights, Try.underlying49]
          exact DataW.weights_mem_each (j := 1) rfl rfl _ (by rw [g1]; simp [DataW.weights, Try.underlying9]))
        rw [Array.length_toList] at this
        exact this
      obtain ⟨p, e4, _⟩ := DataW.trod_bool Try.underlying4 f4
      obtain ⟨q, e5, _⟩ := DataW.trod_bool Try.underlying4 f5
      simp at e0 e1 e2 e3 e4 e5
      subst e0 e1 e2 e3 e4 e5
      have hll : l.length * 8 ≤ 140737488355328 := by obtain ⟨_, _, _, h, _⟩ := hl; exact h.1
      exact ⟨⟨k, s, v, l, p, q⟩, ⟨c3, rfl, hl⟩, Nat.le_trans hks (by decide), hll, wv, hlw⟩

/-- Operations. -/
theorem ops_of_trod {fuel : Nat} {cs : List Value} {x : DataW H × List MemPlace} (h : DataW.trod enc Try.prog w base spare held fuel 45 cs = some x) (hw : ∀ n ∈ x.1.weights Try.prog 45, n ≤ reachBytes) :
    ∃ v l, cs = [v] ∧ OpsIn Any w v l ∧ ∀ o ∈ l, OpFit o := by
  obtain ⟨v, l, hv, hr⟩ := rows_of_trod (R := fun cs a => OpRow Any w cs a ∧ OpFit a) (k := 6) (bytes := 64) Try.underlying45 Try.cells49 (by omega) Try.bytes49 h hw op_of_trod
  obtain ⟨h1, h2⟩ := rows_all hr
  exact ⟨v, l, hv, h1, h2⟩

set_option maxRecDepth 10000 in
/-- A transaction's five cells. -/
theorem txn_of_trod (n : Nat) (cs : List Value) (y : DataW H × List MemPlace) (hlen : cs.length = 5) (h : DataW.trod enc Try.prog w base spare held n 47 cs = some y) (hw : ∀ n ∈ y.1.weights Try.prog 47, n ≤ reachBytes) :
    ∃ a : MTxn, TxnRow Any w cs a ∧ ∀ o ∈ a.ops, OpFit o := by
  obtain ⟨xs, m, rfl, rfl, _, hxl, hf⟩ := DataW.trod_struct Try.underlying47 h
  match cs, hlen with
  | [c0, c1, c2, c3, c4], _ =>
    match xs, hxl with
    | [x0, x1, x2, x3, x4], _ =>
      have f0 := hf 0 _ rfl
      have f1 := hf 1 _ rfl
      have f2 := hf 2 _ rfl
      have f3 := hf 3 _ rfl
      have f4 := hf 4 _ rfl
      simp [Try.cells3, Try.cells45] at f0 f1 f2 f3 f4
      obtain ⟨k, e0, _⟩ := DataW.trod_int Try.underlying3 f0
      obtain ⟨s, e1, _⟩ := DataW.trod_int Try.underlying3 f1
      obtain ⟨v, e2, _⟩ := DataW.trod_int Try.underlying3 f2
      obtain ⟨q, e3, _⟩ := DataW.trod_int Try.underlying3 f3
      obtain ⟨lv, l, e4, hl, hfit⟩ := ops_of_trod f4 (fun n hn => hw n (by
        simp only [DataW.weights, Try.underlying47]
        exact DataW.weights_mem_each (j := 4) rfl rfl n hn))
      simp at e0 e1 e2 e3 e4
      subst e0 e1 e2 e3 e4
      exact ⟨⟨k, s, v, q, l⟩, ⟨c4, rfl, hl⟩, hfit⟩

/-- Transactions. -/
theorem txns_of_trod {fuel : Nat} {cs : List Value} {x : DataW H × List MemPlace} (h : DataW.trod enc Try.prog w base spare held fuel 22 cs = some x) (hw : ∀ n ∈ x.1.weights Try.prog 22, n ≤ reachBytes) :
    ∃ v l, cs = [v] ∧ TxnsIn Any w v l ∧ ∀ t ∈ l, ∀ o ∈ t.ops, OpFit o := by
  obtain ⟨v, l, hv, hr⟩ := rows_of_trod (R := fun cs a => TxnRow Any w cs a ∧ ∀ o ∈ a.ops, OpFit o) (k := 5) (bytes := 56) Try.underlying22 Try.cells47 (by omega) Try.bytes47 h hw txn_of_trod
  obtain ⟨h1, h2⟩ := rows_all hr
  exact ⟨v, l, hv, h1, h2⟩
end
end Go.Proofs.Ytnfbcmnlloipiaa.Tx
