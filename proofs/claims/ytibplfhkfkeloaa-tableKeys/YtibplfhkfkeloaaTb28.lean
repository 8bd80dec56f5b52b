/-
  The law TableKeys.
-/
import Derived.Test.YtibplfhkfkeloaaTb27
import Derived.Deep.RegionWith
import Derived.Test.YtibplfhkfkeloaaIv
import Derived.Shelf.SlSortCmp.QuietGrown
namespace Go.Proofs.Ytibplfhkfkeloaa
set_option linter.unusedVariables false
set_option linter.unusedSimpArgs false
open Go.RowKit Go.Lib Go.Maps
open Tx (MTxn info_parts flatten_len flatten_get RowsIn.cells RowCells TxnRow TxnsIn TxnsOwn setCell_self cloneInts_any OpsOwn smallL cutTxn cutOp Soft)

/-- A zero transaction. -/
def ZT (v : Value) : Prop := ∃ a c, v = .agg #[.int .i64 0, .int .i64 0, .int .i64 0, .int .i64 0, .slice a 0 c]
/-- Two of them in a block. -/
def ZZ (v : Value) (w : World) : Prop := ∃ (g : Nat) (a : Option Addr) (c : Nat) (a' : Option Addr) (c' : Nat), v = .slice (some ⟨g, 0, none⟩) 2 2 ∧ w.heap[g]? = some (.cells #[.int .i64 0, .int .i64 0, .int .i64 0, .int .i64 0, .slice a 0 c, .int .i64 0, .int .i64 0, .int .i64 0, .int .i64 0, .slice a' 0 c'] 36)
theorem ZZ.later {v : Value} {w w' : World} (h : ZZ v w) (hb : Below w.heap.size w w') : ZZ v w' := by
  obtain ⟨g, a, c, a', c', hv, hg⟩ := h
  exact ⟨g, a, c, a', c', hv, (hb.block g (blt hg)).trans hg⟩
/-- What each operation of the last statement yields. -/
def KR (pv lv : Value) (N n0 : Int) (b1 b2 : Bool) (ia ld : Value) (TT : Value → World → Prop) (i : Nat) (v : Value) (w : World) : Prop :=
  match i with
  | 0 => v = pv | 1 => v = lv | 2 => v = .int .i64 N | 3 => ZT v | 4 => v = pv | 5 => ZT v | 6 => ZZ v w | 7 => ZZ v w | 8 => v = .bool true | 9 => v = .bool true
  | 10 => v = .int .i64 n0 | 11 => v = .bool b1 | 12 => v = .bool b1
  | 13 => v = bif b1 then undef else .int .i64 n0 | 14 => v = bif b1 then undef else lv | 15 => v = bif b1 then undef else .int .i64 N | 16 => v = bif b1 then undef else .bool b2
  | 17 => v = .bool (b1 || b2) | 18 => v = .bool (b1 || b2)
  | 19 => v = bif b1 || b2 then undef else pv | 20 => v = bif b1 || b2 then undef else .int .i64 n0 | 21 => bif b1 || b2 then v = undef else TT v w | 22 => v = bif b1 || b2 then undef else lv | 23 => v = bif b1 || b2 then undef else .int .i64 n0
  | 24 => v = bif b1 || b2 then undef else ia | 25 => v = bif b1 || b2 then undef else ld | 26 => v = bif b1 || b2 then undef else .bool true | 27 => v = .bool true | 28 => v = .bool true | 29 => v = .bool true
  | _ => True
theorem KR.stab {pv lv : Value} {N n0 : Int} {b1 b2 : Bool} {ia ld : Value} {TT : Value → World → Prop} (hT : ∀ v w w', TT v w → Below w.heap.size w w' → TT v w') {i : Nat} {v : Value} {w w' : World} (h : KR pv lv N n0 b1 b2 ia ld TT i v w) (hb : Below w.heap.size w w') : KR pv lv N n0 b1 b2 ia ld TT i v w' :=
  match i, h with
  | 0, h => h
  | 1, h => h
  | 2, h => h
  | 3, h => h
  | 4, h => h
  | 5, h => h
  | 6, h => ZZ.later h hb
  | 7, h => ZZ.later h hb
  | 8, h => h
  | 9, h => h
  | 10, h => h
  | 11, h => h
  | 12, h => h
  | 13, h => h
  | 14, h => h
  | 15, h => h
  | 16, h => h
  | 17, h => h
  | 18, h => h
  | 19, h => h
  | 20, h => h
  | 21, h => (by revert h; unfold KR; cases b1 <;> cases b2 <;> first | exact id | exact fun h => hT _ _ _ h hb)
  | 22, h => h
  | 23, h => h
  | 24, h => h
  | 25, h => h
  | 26, h => h
  | 27, h => h
  | 28, h => h
  | 29, h => h
  | _ + 30, h => h

set_option maxHeartbeats 16000000 in
set_option maxRecDepth 100000 in
theorem tkeys_walk (tv : Value) (l0 : List MTxn) (key : ByteArray) (n0 : Int) (w : World) (ht : TxnsIn Any w tv l0) (hok : ∀ t ∈ l0, ∀ o ∈ t.ops, OpOk o) (hkey : key.size ≤ maxLen) (hn0 : (Lit.int .i64 n0).wf = true) :
    Calls Try.prog 3 #[tv, .string key, .int .i64 n0] w fun e w' => e = .returned (.bool true) ∧ Below w.heap.size w w' := by
  have HT := hid ht
  obtain ⟨L, hL⟩ : ∃ L, smallL l0 = L := ⟨_, rfl⟩
  have hlen : L.length ≤ 40 := by rw [← hL]; exact small_len l0
  have HTEN : Hid (∀ t ∈ L, t.ops.length ≤ 10) := fun t h => small_ten (by rw [hL]; exact h)
  have HOK : Hid (∀ t ∈ L, ∀ o ∈ t.ops, OpOk o) := fun t h => small_ok hok (by rw [hL]; exact h)
  have HL := hid hL
  have HKEY := hid hkey
  have HN0 := hid hn0
  have hli : (L.length : Int) ≤ 40 := by omega
  have hNl := notes_len L HTEN.out L.length
  have HNS : Hid (∀ x ∈ notes L L.length, x.2.2.key.size ≤ maxLen) := fun x hx => Nat.le_trans (notes_key L HOK.out L.length (Nat.le_refl _) x hx) (by decide)
  clear ht hok hL hkey hn0
  obtain ⟨i0, hi0, hz0, hz1, hz2⟩ := info_parts Try.infoS
  have HI0 := hid hi0
  have HZ0 := hid hz0
  have HZ1 := hid hz1
  have HZ2 := hid hz2
  clear hi0 hz0 hz1 hz2
  go_enter Try.func3, Try.ntmps3
  go_wp2_with (go_at_call 7; refine (Tx.small_any _ l0 _ HT.out).mono ?_; rintro e w1 ⟨v1, rfl, h1, b1⟩; rw [show smallL l0 = L from HL.out] at h1; have T1 : Hid (TxnsIn Any w1 v1 L) := txns_ins h1; have B1 := hid b1; clear h1 b1)
  go_at_call 8
  refine (Tx.txns_any v1 L w1 T1.out).mono ?_
  rintro e w2 ⟨v2, rfl, h2, b2⟩
  have H2 := hid h2
  have T2 : Hid (TxnsIn Any w2 v2 L) := txns_ins h2
  have B2 := hid b2
  clear h2 b2
  go_wp2_with fail
  go_at_call 9
  refine (tnew_is w2 v2 L T2.out (by omega) HTEN.out HOK.out).mono ?_
  rintro e w3 ⟨tb, rfl, hm3, b3⟩
  have M3 := hid hm3
  have B3 := hid b3
  have SP := hid (spoil_is _ w3 v2 L.length ((spt_of H2.out (by omega) HTEN.out HOK.out).later b3))
  clear hm3 b3
  go_wp2_with fail
  go_at_call 10
  refine SP.out.mono ?_
  rintro e w4 ⟨rfl, g4⟩
  have M4 : Hid (Made w2.heap.size w4 tb L) := M3.out.kept g4 (fun b hb => hb.2)
  have B34 : Below w1.heap.size w3 w4 := g4.below (Nat.le_trans B2.out.size B3.out.size) (fun i hi c => by have := c.1; omega)
  have B14 : Hid (Below w1.heap.size w1 w4) := (B2.out.trans (B3.out.mono B2.out.size)).trans B34
  have T4 : Hid (TxnsIn Any w4 v1 L) := T1.out.below B14.out
  have B4 : Hid (Below w.heap.size w w4) := B1.out.trans (B14.out.mono B1.out.size)
  clear g4 B34 B14 M3 H2 T2 T1 B1 B2 B3 SP
  obtain ⟨a1, c1, rfl, hc1⟩ := id T4.out
  go_wp2_with fail
  go_at_call 11
  refine (tkeys_is _ w4 tb L M4.out HNS.out (by omega)).mono ?_
  rintro e w5 ⟨v5, rfl, h5, b5⟩
  have K5 : Hid (SRow w4.heap.size w5 v5 (keysN (notes L L.length) [])) := h5
  have B5 := hid b5
  have RK := hid (rkeys_is w5 (.slice a1 L.length c1) L (T4.out.below b5) (by omega) HTEN.out)
  have HKL : Hid ((keysN (notes L L.length) []).length ≤ 1000) := by have := keys_len (notes L L.length); show _ ≤ _; omega
  have HSH : Hid (∀ k ∈ keysN (notes L L.length) [], k.length ≤ maxLen) := fun k hk => key_short _ HNS.out k hk
  clear h5 b5
  obtain ⟨KS, hKS⟩ : ∃ KS, keysN (notes L L.length) [] = KS := ⟨_, rfl⟩
  rw [hKS] at K5 RK HKL HSH
  clear hKS
  obtain ⟨ka, kc, hk5⟩ := own_slice K5.out
  subst hk5
  go_wp2_with fail
  go_at_call 13
  refine RK.out.mono ?_
  rintro e w6 ⟨v6, rfl, h6, b6⟩
  obtain ⟨ra, rc, hk6, A6⟩ := own_argS h6
  subst hk6
  obtain ⟨ka', kc', hk5', A5⟩ := own_argS K5.out
  have e5 : ka' = ka := by injection hk5' with e; exact e.symm
  subst e5
  have EQ := hid (equal_strs ka' ra kc rc KS w6 (A5.later b6) A6 (by have := HKL.out; omega))
  have K6 : Hid (SRow w4.heap.size w6 (.slice ka' KS.length kc) KS) := K5.out.later b6
  have B6 : Hid (Below w4.heap.size w4 w6) := B5.out.trans (b6.mono B5.out.size)
  clear A5 A6 h6 b6 hk5' RK K5 B5
  go_wp2_with fail
  go_at_call 12
  refine EQ.out.mono ?_
  rintro e w7 ⟨rfl, q7, rfl⟩
  have B7 : Hid (Below w4.heap.size w4 (w6.drewN q7)) := ⟨B6.out.os, B6.out.tape, B6.out.output, B6.out.size, B6.out.block⟩
  have K7 : Hid (SRow w4.heap.size (w6.drewN q7) (.slice ka' KS.length kc) KS) := own_same K6.out (fun g _ => rfl)
  clear EQ K6 B6
  generalize w6.drewN q7 = w7 at *
  have CO : Hid (Calls Try.prog 14 #[.pointer (some ⟨tb, 0, none⟩)] w7 fun e w' => e = .returned (.int .i64 (L.length : Int)) ∧ w7 = w') := count_is _ w7 tb L (M4.out.later B7.out)
  have hkl : KS.length ≤ 1000 := HKL.out
  have hkli : (KS.length : Int) ≤ 1000 := by omega
  have hsz7 := B7.out.size
  go_wp2_with first | (go_at_call 14; refine CO.out.mono ?_; rintro e w' ⟨rfl, rfl⟩) | (at_builtin; refine wpList_append_lies _ rfl _ _ 27 rfl w4.heap.size 9 i0 _ 1 16 Try.underlying27 HI0.out HZ0.out HZ1.out HZ2.out rfl (by decide) (.slice ka' KS.length kc) KS.length (KS.map encStr) rfl (K7.out.alloc _) ⟨w7.heap.size, 0, none⟩ 1 1 [.string key] rfl rfl (World.news_of_block (cs := #[.string key]) (t := 9) (fr := (0, 0)) (by rw [alloc_at, if_pos rfl])) (by simp [Value.oneCell']) (by decide) (by unfold maxLen; omega) (by omega) (by rw [alloc_size]; omega) (w7.heap.size + 1) (by simp) ?_; intro g8 cap8 w8 hown hgrow hat hglt; have O8 := hid hown; have B8 : Hid (Below w4.heap.size w4 w8) := push_b (Nat.le_refl _) B7.out K7.out hgrow; clear hown hgrow hat hglt)
  have S8 : Hid (SRow w4.heap.size w8 (.slice (some ⟨g8, 0, none⟩) (KS.length + 1) cap8) (KS ++ [key.data.toList])) := srow_snoc O8.out
  have HS8 : Hid (∀ k ∈ KS ++ [key.data.toList], k.length ≤ maxLen) := fun k hk => by
    rcases List.mem_append.1 hk with c | c
    · exact HSH.out k c
    · have : k = key.data.toList := by simpa using c
      rw [this]
      exact HKEY.out
  have hcap : KS.length + 1 ≤ cap8 := by
    rcases O8.out.2 with ⟨hv, hn⟩ | ⟨g', cap', cur, hv, _, _, hc, _⟩
    · omega
    · injection hv with _ _ e3; omega
  clear O8 CO K7 B7 HSH HKL HKEY
  go_loopg [11, 41] (KS.length + 1) (fun gg _ i wr => ∃ k : Nat, k ≤ KS.length + 1 ∧ KS.length + 1 - k ≤ gg ∧ i = .int .i64 k ∧ Aside (Below w8.heap.size w8 wr))
  case atStart => exact ⟨0, Nat.zero_le _, by omega, rfl, Below.refl _ _⟩
  case round =>
    obtain ⟨k, hk, hgk, rfl, BR⟩ := hrel
    have B48 : Hid (Below w4.heap.size w4 wr) := B8.out.trans (BR.out.mono B8.out.size)
    by_cases hlt : k < KS.length + 1
    · have hlti : (k : Int) < (KS.length : Int) + 1 := by omega
      have hkl2 : k < (KS ++ [key.data.toList]).length := by simp; omega
      obtain ⟨kb, hkb, hkl3⟩ := str_of ((KS ++ [key.data.toList]).getD k default)
      have hcq : wr.cell? ⟨g8, k, none⟩ = some (.string kb) := by
        rw [← hkb]
        have h9 : SRow w4.heap.size w8 (.slice (some ⟨g8, 0, none⟩) (KS ++ [key.data.toList]).length cap8) (KS ++ [key.data.toList]) := by
          have := S8.out
          rw [show KS.length + 1 = (KS ++ [key.data.toList]).length by simp] at this
          exact this
        exact cell_later BR.out (srow_cell h9 k hkl2)
      have hks : kb.size ≤ maxLen := by
        have := HS8.out _ (getD_mem _ k hkl2)
        rw [← hkl3] at this
        exact this
      have TK := hid (tkind_is _ wr tb L (M4.out.later B48.out) kb hks)
      have RK := hid (rkind_is wr (.slice a1 L.length c1) L kb (T4.out.below B48.out) (by omega) HTEN.out)
      clear hkb hkl3 hkl2 hks
      generalize kindN (notes L L.length) kb = X at *
      go_wp2_with first | (go_at_call 15; refine TK.out.mono ?_; rintro e w' ⟨rfl, rfl⟩) | (go_at_call 16; refine RK.out.mono ?_; rintro e w9 ⟨rfl, b9⟩; have B9 := hid b9; clear b9)
      go_roundg (KS.length + 1 - (k + 1))
      case measure => omega
      case rel => exact ⟨k + 1, by omega, by omega, by go_num, BR.out.trans (B9.out.mono BR.out.size)⟩
    · clear BR S8 HS8
      have hke : k = KS.length + 1 := by omega
      have hkn : ¬ ((k : Int) < (KS.length : Int) + 1) := by omega
      obtain ⟨ao, cc, hao, hbytes, hrow⟩ := RowsIn.cells T4.out (by omega)
      have e1 : a1 = ao := by injection hao
      subst e1
      have HC := hid hrow
      clear hao hbytes hrow hke
      go_wp2_with fail
      go_loopg [12, 13, 55] L.length (fun gg _ _ i wr => ∃ k : Nat, k ≤ L.length ∧ L.length - k ≤ gg ∧ i = .int .i64 k ∧ Aside (Below w4.heap.size w4 wr))
      case atStart => exact ⟨0, Nat.zero_le _, by omega, rfl, B48.out⟩
      case round =>
        clear B48
        obtain ⟨m, hm, hgm, rfl, BR⟩ := hrel
        by_cases hml : m < L.length
        · have hmli : (m : Int) < L.length := by omega
          obtain ⟨b, o, cs, rfl, hbl, _, ⟨ov, hcs, hops⟩, hcell⟩ := HC.out m hml
          subst hcs
          have HOPS := hid hops
          obtain ⟨oa, oc, hov, hol, hoc⟩ := id hops
          subst hov
          have hmem : L.getD m default ∈ L := getD_mem L m hml
          have TX := hid (ttx_in _ wr tb L (M4.out.later BR.out) m hml (by omega) HOK.out)
          have HTT : Hid ((L.getD m default).ops.length ≤ 10 ∧ ∀ o ∈ (L.getD m default).ops, o.key.size ≤ 281474976710656) := ⟨HTEN.out _ hmem, fun o ho => (HOK.out _ hmem o ho).1⟩
          have HCE := hid hcell
          clear hcell hops hoc hmem
          generalize L.getD m default = t at *
          go_upto_region 18 with (go_at_call 17; refine TX.out.mono ?_; rintro e w9 ⟨na, nn, nc, rfl, h9, b9⟩; obtain ⟨_, _, hnn, _⟩ := id h9; obtain ⟨_, hnn, _⟩ := Value.slice.inj hnn; subst hnn; have H9 := hid h9; have B9 := hid b9; clear h9 b9)
          obtain ⟨Wb, hWb⟩ : ∃ Wb, w9.alloc (.cells #[.int .i64 t.proc, .int .i64 t.state, .int .i64 t.since, .int .i64 t.till, .slice na t.ops.length nc] 36) = Wb := ⟨_, rfl⟩
          obtain ⟨xb, hxb⟩ : ∃ xb, w9.heap.size = xb := ⟨_, rfl⟩
          have p0 : Wb.cell? ⟨xb, 0, none⟩ = some (.int .i64 t.proc) := by rw [← hWb, ← hxb]; simp
          have p1 : Wb.cell? ⟨xb, 1, none⟩ = some (.int .i64 t.state) := by rw [← hWb, ← hxb]; simp
          have p2 : Wb.cell? ⟨xb, 2, none⟩ = some (.int .i64 t.since) := by rw [← hWb, ← hxb]; simp
          have p3 : Wb.cell? ⟨xb, 3, none⟩ = some (.int .i64 t.till) := by rw [← hWb, ← hxb]; simp
          have p4 : Wb.cell? ⟨xb, 4, none⟩ = some (.slice na t.ops.length nc) := by rw [← hWb, ← hxb]; simp
          have B9b : Hid (Below w9.heap.size w9 Wb) := by rw [← hWb]; exact below_box w9 _
          rw [hWb, hxb]
          have B4b : Hid (Below w4.heap.size w4 Wb) := (BR.out.trans (B9.out.mono BR.out.size)).trans (B9b.out.mono (Nat.le_trans BR.out.size B9.out.size))
          have d0 := (B4b.out.cell (p := ⟨b, o + m * 5 + 0, none⟩) hbl).trans (HCE.out 0 _ rfl)
          have d1 := (B4b.out.cell (p := ⟨b, o + m * 5 + 1, none⟩) hbl).trans (HCE.out 1 _ rfl)
          have d2 := (B4b.out.cell (p := ⟨b, o + m * 5 + 2, none⟩) hbl).trans (HCE.out 2 _ rfl)
          have d3 := (B4b.out.cell (p := ⟨b, o + m * 5 + 3, none⟩) hbl).trans (HCE.out 3 _ rfl)
          have d4 := (B4b.out.cell (p := ⟨b, o + m * 5 + 4, none⟩) hbl).trans (HCE.out 4 _ rfl)
          rw [Nat.add_zero] at d0
          have ST : Hid (∀ p : BW Wb, Calls Try.prog 18 #[.agg (txC t (.slice na t.ops.length nc)), .agg (txC t (.slice oa t.ops.length oc))] p.val fun e w'' => e = .returned (.bool true) ∧ ∃ p' : BW Wb, w'' = p'.val) := fun p => by
            refine (sameTxn_is p.val t _ _ (H9.out.ops.keep (keeps_below (B9b.out.trans (p.2.mono B9b.out.size))) (fun _ _ h => h)) (HOPS.out.keep (keeps_below (B4b.out.trans (p.2.mono B4b.out.size))) (fun _ _ h => h))).mono ?_
            rintro e w' ⟨he, hb⟩
            exact ⟨he, ⟨w', p.2.trans (hb.mono p.2.size)⟩, rfl⟩
          have SO : Hid (SpO (fun x => wr.heap.size ≤ x) Wb (.slice na t.ops.length nc)) := (spo_of H9.out (fun _ _ h => h) HTT.out.1 HTT.out.2).later B9b.out
          have Q0 := hid p0
          have Q1 := hid p1
          have Q2 := hid p2
          have Q3 := hid p3
          have Q4 := hid p4
          have v0 := bcell p0
          have v1 := bcell p1
          have v2' := bcell p2
          have v3 := bcell p3
          have v4 := bcell p4
          have v5 := bcell d0
          have v6 := bcell d1
          have v7 := bcell d2
          have v8 := bcell d3
          have v9 := bcell d4
          have mixed := Try.mixed
          have bwS : Nonempty (BW Wb) := bwSome Wb
          clear hWb p0 p1 p2 p3 p4 d0 d1 d2 d3 d4 TX HCE
          have hxs : wr.heap.size ≤ Wb.heap.size := Nat.le_trans B9.out.size B9b.out.size
          refine wp_region_quiet_below (by assumption) (by kernel_rfl) ?_
          repeat (go_big_quiet_step ((go_at_call 18; exact ST.out _)))
          refine wpQuiet_nil ?_
          intro w10 hw10
          obtain ⟨⟨W, hb10⟩, hw11⟩ := hw10
          have hw12 : w10 = W := hw11
          subst hw12
          clear hw11 v0 v1 v2' v3 v4 v5 v6 v7 v8 v9
          have B10 := hid hb10
          have p0 := cell_later hb10 Q0.out
          have p1 := cell_later hb10 Q1.out
          have p2 := cell_later hb10 Q2.out
          have p3 := cell_later hb10 Q3.out
          have p4 := cell_later hb10 Q4.out
          have SX := hid (spoil_is _ _ _ 1 (spt_one (P := fun x => wr.heap.size ≤ x) (t := t) (Nat.le_trans hxs hb10.size) (SO.out.later hb10)))
          have BX : Hid (Below wr.heap.size wr (w10.alloc (.cells (txC t (.slice na t.ops.length nc)) 36))) := ((B9.out.trans (B9b.out.mono B9.out.size)).trans (B10.out.mono hxs)).trans ((below_box w10 _).mono (Nat.le_trans hxs hb10.size))
          clear hb10 ST Q0 Q1 Q2 Q3 Q4
          go_wp2_with (go_at_call 10; refine SX.out.mono ?_; rintro e w11 ⟨rfl, g11⟩; have G11 := hid g11; clear g11)
          go_roundg (L.length - (m + 1))
          case measure => omega
          case rel => exact ⟨m + 1, by omega, by omega, by go_num, BR.out.trans ((BX.out.trans (G11.out.below BX.out.size (fun i hi c => by have c' : wr.heap.size ≤ i := c; omega))).mono BR.out.size)⟩
        · have hmn : ¬ ((m : Int) < L.length) := by omega
          have TXO : Hid (∀ W (n : Int), (n < 0 ∨ (L.length : Int) ≤ n) → Below w4.heap.size w4 W → Calls Try.prog 17 #[.pointer (some ⟨tb, 0, none⟩), .int .i64 n] W fun e w' => ∃ a c, e = .returned (.agg #[.int .i64 0, .int .i64 0, .int .i64 0, .int .i64 0, .slice a 0 c]) ∧ Below W.heap.size W w') := fun W n hn hb => (ttx_off _ W tb L (M4.out.later hb) n hn).mono fun e w' ⟨a, n, c, he, ho, hb'⟩ => by
            obtain ⟨_, _, hv, _⟩ := ho
            obtain ⟨_, hn, _⟩ := Value.slice.inj hv
            subst hn
            exact ⟨a, c, he, hb'⟩
          have hmk := mk2
          have BWR : Below w4.heap.size w4 wr := BR.out
          by_cases hn1 : n0 < 0
          · have hnd : decide (n0 < 0) = true := decide_eq_true hn1
            go_upto_region 22 with fail
            refine wp_region_ask Try.mixed (by kernel_rfl) (fun val => { tmps := #[_, _, _, _, _, _, val 29, _, _, _, _, _, _, _, _, _, _, _, _, _, _, _, _, _, _, _, _, _, _, _, _, _, _, _, _, _, _, _, _, _, _, _, _, _, _, _, _, _, _, _, _, _, _, _, _, _, _, _, _, _, _, _, _, _, _, _, _, _, _, _, _, _, val 0, val 1, val 2, val 3, val 4, val 5, val 6, val 7, val 8, val 9, val 10, val 11, val 12, val 13, val 14, val 15, val 16, val 17, val 18, val 19, val 20, val 21, val 22, val 23, val 24, val 25, val 26, val 27, val 28], defers := [] }) (KR (.pointer (some ⟨tb, 0, none⟩)) (.slice a1 L.length c1) (L.length : Int) n0 true false undef undef (fun _ _ => True)) (fun i => if i = 29 then _ else undef) rfl (fun i v w w2 hv hbw => KR.stab (fun _ _ _ _ _ => trivial) hv hbw) _ rfl ?_ ?_
            · refine ⟨?_, ?_, ?_, ?_, ?_, ?_, ?_, ?_, ?_, ?_, ?_, ?_, ?_, ?_, ?_, ?_, ?_, ?_, ?_, ?_, ?_, ?_, ?_, ?_, ?_, ?_, ?_, ?_, ?_, ?_, trivial⟩
              · refine ask_plain rfl (fun _ _ => rfl) (fun val W hb hd => ?_)
                exact does_value rfl rfl
              · refine ask_plain rfl (fun _ _ => rfl) (fun val W hb hd => ?_)
                exact does_value rfl rfl
              · refine ask_plain rfl (fun _ _ => rfl) (fun val W hb hd => ?_)
                have h1 : val 1 = .slice a1 L.length c1 := depsAll_get hd 1 rfl
                refine does_value (v := .int .i64 (L.length : Int)) ?_ rfl
                simp [execOp, Act.eval, h1, go_sem]
              · refine ask_plain rfl (fun _ _ => rfl) (fun val W hb hd => ?_)
                have h0 : val 0 = .pointer (some ⟨tb, 0, none⟩) := depsAll_get hd 0 rfl
                have h2 : val 2 = .int .i64 (L.length : Int) := depsAll_get hd 2 rfl
                refine does_call (f := 17) (args := #[.pointer (some ⟨tb, 0, none⟩), .int .i64 (L.length : Int)]) ?_ (TXO.out W _ (.inr (Int.le_refl _)) (BWR.trans (hb.mono BWR.size))) (fun e w2 h => ?_)
                · simp [execOp, Act.eval, h0, h2, go_sem]
                · obtain ⟨qa, qc, he, hbb⟩ := h
                  exact ⟨_, he, ⟨qa, qc, rfl⟩, hbb⟩
              · refine ask_plain rfl (fun _ _ => rfl) (fun val W hb hd => ?_)
                exact does_value rfl rfl
              · refine ask_plain rfl (fun _ _ => rfl) (fun val W hb hd => ?_)
                have h0 : val 4 = .pointer (some ⟨tb, 0, none⟩) := depsAll_get hd 4 rfl
                refine does_call (f := 17) (args := #[.pointer (some ⟨tb, 0, none⟩), .int .i64 (-1)]) ?_ (TXO.out W _ (.inl (by decide)) (BWR.trans (hb.mono BWR.size))) (fun e w2 h => ?_)
                · simp [execOp, Act.eval, h0, go_sem]
                · obtain ⟨qa, qc, he, hbb⟩ := h
                  exact ⟨_, he, ⟨qa, qc, rfl⟩, hbb⟩
              · refine ask_plain rfl (fun _ _ => rfl) (fun val W hb hd => ?_)
                have h3 : ZT (val 3) := depsAll_get hd 3 rfl
                have h5 : ZT (val 5) := depsAll_get hd 5 rfl
                obtain ⟨qa, qc, e3⟩ := h3
                obtain ⟨qa2, qc2, e5⟩ := h5
                refine does_grown (v := .slice (some ⟨W.heap.size, 0, none⟩) 2 2) (w' := W.alloc (.cells #[.int .i64 0, .int .i64 0, .int .i64 0, .int .i64 0, .slice qa 0 qc, .int .i64 0, .int .i64 0, .int .i64 0, .int .i64 0, .slice qa2 0 qc2] 36)) ?_ ⟨_, _, _, _, _, rfl, hp_new _ _⟩ (below_box _ _)
                simp [execOp, Act.eval, e3, e5, go_sem]
              · refine ask_plain rfl (fun _ _ => rfl) (fun val W hb hd => ?_)
                refine does_grown (v := .slice (some ⟨W.heap.size, 0, none⟩) 2 2) (w' := W.alloc (.cells #[.int .i64 0, .int .i64 0, .int .i64 0, .int .i64 0, .slice none 0 0, .int .i64 0, .int .i64 0, .int .i64 0, .int .i64 0, .slice none 0 0] 36)) ?_ ⟨_, _, _, _, _, rfl, hp_new _ _⟩ (below_box _ _)
                have hmk2 := mk2 W
                simp [execOp, Act.eval, hmk2, go_sem]
              · refine ask_plain rfl (fun _ _ => rfl) (fun val W hb hd => ?_)
                have h6 : ZZ (val 6) W := depsAll_get hd 6 rfl
                have h7 : ZZ (val 7) W := depsAll_get hd 7 rfl
                obtain ⟨g1, x1, y1, x2, y2, e6, k6⟩ := h6
                obtain ⟨g2, x3, y3, x4, y4, e7, k7⟩ := h7
                refine does_call (f := 19) (args := #[.slice (some ⟨g1, 0, none⟩) 2 2, .slice (some ⟨g2, 0, none⟩) 2 2]) ?_ (zz_same W g1 g2 _ _ _ _ _ _ _ _ k6 k7) (fun e w2 h => ⟨_, h.1, rfl, h.2⟩)
                simp [execOp, Act.eval, e6, e7, go_sem]
              · refine ask_plain rfl (fun _ _ => rfl) (fun val W hb hd => ?_)
                have h8 : val 8 = .bool true := depsAll_get hd 8 rfl
                exact does_value rfl h8
              · refine ask_yes 9 true rfl (fun _ _ => rfl) (fun val W hd => by have hj : val 9 = .bool true := depsAll_get hd 9 rfl; simp [yielded, hj]) (fun val W hb hd => ?_)
                exact does_value rfl rfl
              · refine ask_yes 9 true rfl (fun _ _ => rfl) (fun val W hd => by have hj : val 9 = .bool true := depsAll_get hd 9 rfl; simp [yielded, hj]) (fun val W hb hd => ?_)
                have h10 : val 10 = .int .i64 n0 := depsAll_get hd 10 rfl
                refine does_value (v := .bool true) ?_ rfl
                simp [execOp, Act.eval, h10, hnd, go_sem]
              · refine ask_yes 9 true rfl (fun _ _ => rfl) (fun val W hd => by have hj : val 9 = .bool true := depsAll_get hd 9 rfl; simp [yielded, hj]) (fun val W hb hd => ?_)
                have h11 : val 11 = .bool true := depsAll_get hd 11 rfl
                exact does_value rfl h11
              · exact ask_no 12 false true rfl (by decide) (fun _ _ => rfl) (fun val W hd => by have hj : val 12 = .bool true := depsAll_get hd 12 rfl; simp [yielded, hj]) (fun _ => rfl)
              · exact ask_no 12 false true rfl (by decide) (fun _ _ => rfl) (fun val W hd => by have hj : val 12 = .bool true := depsAll_get hd 12 rfl; simp [yielded, hj]) (fun _ => rfl)
              · exact ask_no 12 false true rfl (by decide) (fun _ _ => rfl) (fun val W hd => by have hj : val 12 = .bool true := depsAll_get hd 12 rfl; simp [yielded, hj]) (fun _ => rfl)
              · exact ask_no 12 false true rfl (by decide) (fun _ _ => rfl) (fun val W hd => by have hj : val 12 = .bool true := depsAll_get hd 12 rfl; simp [yielded, hj]) (fun _ => rfl)
              · refine ask_yes 9 true rfl (fun _ _ => rfl) (fun val W hd => by have hj : val 9 = .bool true := depsAll_get hd 9 rfl; simp [yielded, hj]) (fun val W hb hd => ?_)
                have h12 : val 12 = .bool true := depsAll_get hd 12 rfl
                refine does_value (v := .bool true) ?_ rfl
                simp [execOp, Act.eval, h12, go_sem]
              · refine ask_yes 9 true rfl (fun _ _ => rfl) (fun val W hd => by have hj : val 9 = .bool true := depsAll_get hd 9 rfl; simp [yielded, hj]) (fun val W hb hd => ?_)
                have h17 : val 17 = .bool true := depsAll_get hd 17 rfl
                exact does_value rfl h17
              · exact ask_no 18 false true rfl (by decide) (fun _ _ => rfl) (fun val W hd => by have hj : val 18 = .bool true := depsAll_get hd 18 rfl; simp [yielded, hj]) (fun _ => rfl)
              · exact ask_no 18 false true rfl (by decide) (fun _ _ => rfl) (fun val W hd => by have hj : val 18 = .bool true := depsAll_get hd 18 rfl; simp [yielded, hj]) (fun _ => rfl)
              · exact ask_no 18 false true rfl (by decide) (fun _ _ => rfl) (fun val W hd => by have hj : val 18 = .bool true := depsAll_get hd 18 rfl; simp [yielded, hj]) (fun _ => rfl)
              · exact ask_no 18 false true rfl (by decide) (fun _ _ => rfl) (fun val W hd => by have hj : val 18 = .bool true := depsAll_get hd 18 rfl; simp [yielded, hj]) (fun _ => rfl)
              · exact ask_no 18 false true rfl (by decide) (fun _ _ => rfl) (fun val W hd => by have hj : val 18 = .bool true := depsAll_get hd 18 rfl; simp [yielded, hj]) (fun _ => rfl)
              · exact ask_no 18 false true rfl (by decide) (fun _ _ => rfl) (fun val W hd => by have hj : val 18 = .bool true := depsAll_get hd 18 rfl; simp [yielded, hj]) (fun _ => rfl)
              · exact ask_no 18 false true rfl (by decide) (fun _ _ => rfl) (fun val W hd => by have hj : val 18 = .bool true := depsAll_get hd 18 rfl; simp [yielded, hj]) (fun _ => rfl)
              · exact ask_no 18 false true rfl (by decide) (fun _ _ => rfl) (fun val W hd => by have hj : val 18 = .bool true := depsAll_get hd 18 rfl; simp [yielded, hj]) (fun _ => rfl)
              · refine ask_yes 9 true rfl (fun _ _ => rfl) (fun val W hd => by have hj : val 9 = .bool true := depsAll_get hd 9 rfl; simp [yielded, hj]) (fun val W hb hd => ?_)
                have h18 : val 18 = .bool true := depsAll_get hd 18 rfl
                refine does_value (v := .bool true) ?_ rfl
                simp [execOp, Act.eval, h18, go_sem]
              · refine ask_plain rfl (fun _ _ => rfl) (fun val W hb hd => ?_)
                have h9 : val 9 = .bool true := depsAll_get hd 9 rfl
                have h27 : val 27 = .bool true := depsAll_get hd 27 rfl
                refine does_value (v := .bool true) ?_ rfl
                simp [execOp, Act.eval, h9, h27, go_sem]
              · refine ask_plain rfl (fun _ _ => rfl) (fun val W hb hd => ?_)
                have h28 : val 28 = .bool true := depsAll_get hd 28 rfl
                exact does_value rfl h28
            · intro val W hbW hR
              have h29 : val 29 = .bool true := hR 29 (by decide)
              go_wp2_with fail
              go_ret
              exact ⟨rfl, B4.out.trans ((BWR.trans (hbW.mono BWR.size)).mono B4.out.size)⟩
          · have hnd : decide (n0 < 0) = false := decide_eq_false hn1
            by_cases hn2 : (L.length : Int) ≤ n0
            · have hnd2 : decide ((L.length : Int) ≤ n0) = true := decide_eq_true hn2
              go_upto_region 22 with fail
              refine wp_region_ask Try.mixed (by kernel_rfl) (fun val => { tmps := #[_, _, _, _, _, _, val 29, _, _, _, _, _, _, _, _, _, _, _, _, _, _, _, _, _, _, _, _, _, _, _, _, _, _, _, _, _, _, _, _, _, _, _, _, _, _, _, _, _, _, _, _, _, _, _, _, _, _, _, _, _, _, _, _, _, _, _, _, _, _, _, _, _, val 0, val 1, val 2, val 3, val 4, val 5, val 6, val 7, val 8, val 9, val 10, val 11, val 12, val 13, val 14, val 15, val 16, val 17, val 18, val 19, val 20, val 21, val 22, val 23, val 24, val 25, val 26, val 27, val 28], defers := [] }) (KR (.pointer (some ⟨tb, 0, none⟩)) (.slice a1 L.length c1) (L.length : Int) n0 false true undef undef (fun _ _ => True)) (fun i => if i = 29 then _ else undef) rfl (fun i v w w2 hv hbw => KR.stab (fun _ _ _ _ _ => trivial) hv hbw) _ rfl ?_ ?_
              · refine ⟨?_, ?_, ?_, ?_, ?_, ?_, ?_, ?_, ?_, ?_, ?_, ?_, ?_, ?_, ?_, ?_, ?_, ?_, ?_, ?_, ?_, ?_, ?_, ?_, ?_, ?_, ?_, ?_, ?_, ?_, trivial⟩
                · refine ask_plain rfl (fun _ _ => rfl) (fun val W hb hd => ?_)
                  exact does_value rfl rfl
                · refine ask_plain rfl (fun _ _ => rfl) (fun val W hb hd => ?_)
                  exact does_value rfl rfl
                · refine ask_plain rfl (fun _ _ => rfl) (fun val W hb hd => ?_)
                  have h1 : val 1 = .slice a1 L.length c1 := depsAll_get hd 1 rfl
                  refine does_value (v := .int .i64 (L.length : Int)) ?_ rfl
                  simp [execOp, Act.eval, h1, go_sem]
                · refine ask_plain rfl (fun _ _ => rfl) (fun val W hb hd => ?_)
                  have h0 : val 0 = .pointer (some ⟨tb, 0, none⟩) := depsAll_get hd 0 rfl
                  have h2 : val 2 = .int .i64 (L.length : Int) := depsAll_get hd 2 rfl
                  refine does_call (f := 17) (args := #[.pointer (some ⟨tb, 0, none⟩), .int .i64 (L.length : Int)]) ?_ (TXO.out W _ (.inr (Int.le_refl _)) (BWR.trans (hb.mono BWR.size))) (fun e w2 h => ?_)
                  · simp [execOp, Act.eval, h0, h2, go_sem]
                  · obtain ⟨qa, qc, he, hbb⟩ := h
                    exact ⟨_, he, ⟨qa, qc, rfl⟩, hbb⟩
                · refine ask_plain rfl (fun _ _ => rfl) (fun val W hb hd => ?_)
                  exact does_value rfl rfl
                · refine ask_plain rfl (fun _ _ => rfl) (fun val W hb hd => ?_)
                  have h0 : val 4 = .pointer (some ⟨tb, 0, none⟩) := depsAll_get hd 4 rfl
                  refine does_call (f := 17) (args := #[.pointer (some ⟨tb, 0, none⟩), .int .i64 (-1)]) ?_ (TXO.out W _ (.inl (by decide)) (BWR.trans (hb.mono BWR.size))) (fun e w2 h => ?_)
                  · simp [execOp, Act.eval, h0, go_sem]
                  · obtain ⟨qa, qc, he, hbb⟩ := h
                    exact ⟨_, he, ⟨qa, qc, rfl⟩, hbb⟩
                · refine ask_plain rfl (fun _ _ => rfl) (fun val W hb hd => ?_)
                  have h3 : ZT (val 3) := depsAll_get hd 3 rfl
                  have h5 : ZT (val 5) := depsAll_get hd 5 rfl
                  obtain ⟨qa, qc, e3⟩ := h3
                  obtain ⟨qa2, qc2, e5⟩ := h5
                  refine does_grown (v := .slice (some ⟨W.heap.size, 0, none⟩) 2 2) (w' := W.alloc (.cells #[.int .i64 0, .int .i64 0, .int .i64 0, .int .i64 0, .slice qa 0 qc, .int .i64 0, .int .i64 0, .int .i64 0, .int .i64 0, .slice qa2 0 qc2] 36)) ?_ ⟨_, _, _, _, _, rfl, hp_new _ _⟩ (below_box _ _)
                  simp [execOp, Act.eval, e3, e5, go_sem]
                · refine ask_plain rfl (fun _ _ => rfl) (fun val W hb hd => ?_)
                  refine does_grown (v := .slice (some ⟨W.heap.size, 0, none⟩) 2 2) (w' := W.alloc (.cells #[.int .i64 0, .int .i64 0, .int .i64 0, .int .i64 0, .slice none 0 0, .int .i64 0, .int .i64 0, .int .i64 0, .int .i64 0, .slice none 0 0] 36)) ?_ ⟨_, _, _, _, _, rfl, hp_new _ _⟩ (below_box _ _)
                  have hmk2 := mk2 W
                  simp [execOp, Act.eval, hmk2, go_sem]
                · refine ask_plain rfl (fun _ _ => rfl) (fun val W hb hd => ?_)
                  have h6 : ZZ (val 6) W := depsAll_get hd 6 rfl
                  have h7 : ZZ (val 7) W := depsAll_get hd 7 rfl
                  obtain ⟨g1, x1, y1, x2, y2, e6, k6⟩ := h6
                  obtain ⟨g2, x3, y3, x4, y4, e7, k7⟩ := h7
                  refine does_call (f := 19) (args := #[.slice (some ⟨g1, 0, none⟩) 2 2, .slice (some ⟨g2, 0, none⟩) 2 2]) ?_ (zz_same W g1 g2 _ _ _ _ _ _ _ _ k6 k7) (fun e w2 h => ⟨_, h.1, rfl, h.2⟩)
                  simp [execOp, Act.eval, e6, e7, go_sem]
                · refine ask_plain rfl (fun _ _ => rfl) (fun val W hb hd => ?_)
                  have h8 : val 8 = .bool true := depsAll_get hd 8 rfl
                  exact does_value rfl h8
                · refine ask_yes 9 true rfl (fun _ _ => rfl) (fun val W hd => by have hj : val 9 = .bool true := depsAll_get hd 9 rfl; simp [yielded, hj]) (fun val W hb hd => ?_)
                  exact does_value rfl rfl
                · refine ask_yes 9 true rfl (fun _ _ => rfl) (fun val W hd => by have hj : val 9 = .bool true := depsAll_get hd 9 rfl; simp [yielded, hj]) (fun val W hb hd => ?_)
                  have h10 : val 10 = .int .i64 n0 := depsAll_get hd 10 rfl
                  refine does_value (v := .bool false) ?_ rfl
                  simp [execOp, Act.eval, h10, hnd, go_sem]
                · refine ask_yes 9 true rfl (fun _ _ => rfl) (fun val W hd => by have hj : val 9 = .bool true := depsAll_get hd 9 rfl; simp [yielded, hj]) (fun val W hb hd => ?_)
                  have h11 : val 11 = .bool false := depsAll_get hd 11 rfl
                  exact does_value rfl h11
                · refine ask_yes 12 false rfl (fun _ _ => rfl) (fun val W hd => by have hj : val 12 = .bool false := depsAll_get hd 12 rfl; simp [yielded, hj]) (fun val W hb hd => ?_)
                  exact does_value rfl rfl
                · refine ask_yes 12 false rfl (fun _ _ => rfl) (fun val W hd => by have hj : val 12 = .bool false := depsAll_get hd 12 rfl; simp [yielded, hj]) (fun val W hb hd => ?_)
                  exact does_value rfl rfl
                · refine ask_yes 12 false rfl (fun _ _ => rfl) (fun val W hd => by have hj : val 12 = .bool false := depsAll_get hd 12 rfl; simp [yielded, hj]) (fun val W hb hd => ?_)
                  have h14 : val 14 = .slice a1 L.length c1 := depsAll_get hd 14 rfl
                  refine does_value (v := .int .i64 (L.length : Int)) ?_ rfl
                  simp [execOp, Act.eval, h14, go_sem]
                · refine ask_yes 12 false rfl (fun _ _ => rfl) (fun val W hd => by have hj : val 12 = .bool false := depsAll_get hd 12 rfl; simp [yielded, hj]) (fun val W hb hd => ?_)
                  have h13 : val 13 = .int .i64 n0 := depsAll_get hd 13 rfl
                  have h15 : val 15 = .int .i64 (L.length : Int) := depsAll_get hd 15 rfl
                  refine does_value (v := .bool true) ?_ rfl
                  simp [execOp, Act.eval, h13, h15, hnd2, go_sem]
                · refine ask_yes 9 true rfl (fun _ _ => rfl) (fun val W hd => by have hj : val 9 = .bool true := depsAll_get hd 9 rfl; simp [yielded, hj]) (fun val W hb hd => ?_)
                  have h12 : val 12 = .bool false := depsAll_get hd 12 rfl
                  have h16 : val 16 = .bool true := depsAll_get hd 16 rfl
                  refine does_value (v := .bool true) ?_ rfl
                  simp [execOp, Act.eval, h12, h16, go_sem]
                · refine ask_yes 9 true rfl (fun _ _ => rfl) (fun val W hd => by have hj : val 9 = .bool true := depsAll_get hd 9 rfl; simp [yielded, hj]) (fun val W hb hd => ?_)
                  have h17 : val 17 = .bool true := depsAll_get hd 17 rfl
                  exact does_value rfl h17
                · exact ask_no 18 false true rfl (by decide) (fun _ _ => rfl) (fun val W hd => by have hj : val 18 = .bool true := depsAll_get hd 18 rfl; simp [yielded, hj]) (fun _ => rfl)
                · exact ask_no 18 false true rfl (by decide) (fun _ _ => rfl) (fun val W hd => by have hj : val 18 = .bool true := depsAll_get hd 18 rfl; simp [yielded, hj]) (fun _ => rfl)
                · exact ask_no 18 false true rfl (by decide) (fun _ _ => rfl) (fun val W hd => by have hj : val 18 = .bool true := depsAll_get hd 18 rfl; simp [yielded, hj]) (fun _ => rfl)
                · exact ask_no 18 false true rfl (by decide) (fun _ _ => rfl) (fun val W hd => by have hj : val 18 = .bool true := depsAll_get hd 18 rfl; simp [yielded, hj]) (fun _ => rfl)
                · exact ask_no 18 false true rfl (by decide) (fun _ _ => rfl) (fun val W hd => by have hj : val 18 = .bool true := depsAll_get hd 18 rfl; simp [yielded, hj]) (fun _ => rfl)
                · exact ask_no 18 false true rfl (by decide) (fun _ _ => rfl) (fun val W hd => by have hj : val 18 = .bool true := depsAll_get hd 18 rfl; simp [yielded, hj]) (fun _ => rfl)
                · exact ask_no 18 false true rfl (by decide) (fun _ _ => rfl) (fun val W hd => by have hj : val 18 = .bool true := depsAll_get hd 18 rfl; simp [yielded, hj]) (fun _ => rfl)
                · exact ask_no 18 false true rfl (by decide) (fun _ _ => rfl) (fun val W hd => by have hj : val 18 = .bool true := depsAll_get hd 18 rfl; simp [yielded, hj]) (fun _ => rfl)
                · refine ask_yes 9 true rfl (fun _ _ => rfl) (fun val W hd => by have hj : val 9 = .bool true := depsAll_get hd 9 rfl; simp [yielded, hj]) (fun val W hb hd => ?_)
                  have h18 : val 18 = .bool true := depsAll_get hd 18 rfl
                  refine does_value (v := .bool true) ?_ rfl
                  simp [execOp, Act.eval, h18, go_sem]
                · refine ask_plain rfl (fun _ _ => rfl) (fun val W hb hd => ?_)
                  have h9 : val 9 = .bool true := depsAll_get hd 9 rfl
                  have h27 : val 27 = .bool true := depsAll_get hd 27 rfl
                  refine does_value (v := .bool true) ?_ rfl
                  simp [execOp, Act.eval, h9, h27, go_sem]
                · refine ask_plain rfl (fun _ _ => rfl) (fun val W hb hd => ?_)
                  have h28 : val 28 = .bool true := depsAll_get hd 28 rfl
                  exact does_value rfl h28
              · intro val W hbW hR
                have h29 : val 29 = .bool true := hR 29 (by decide)
                go_wp2_with fail
                go_ret
                exact ⟨rfl, B4.out.trans ((BWR.trans (hbW.mono BWR.size)).mono B4.out.size)⟩
            · have hnd2 : decide ((L.length : Int) ≤ n0) = false := decide_eq_false hn2
              obtain ⟨r, hr⟩ : ∃ r : Nat, n0 = (r : Int) := ⟨n0.toNat, by omega⟩
              subst hr
              have hrl : r < L.length := by omega
              have hrli : (r : Int) < L.length := by omega
              have hr0 : (0 : Int) ≤ (r : Int) := by omega
              obtain ⟨b, o, cs, hao, hbl, _, ⟨ov, hcs, hops⟩, hcell⟩ := HC.out r hrl
              subst hao
              subst hcs
              have HOPS := hid hops
              obtain ⟨oa, oc, hov, hol, hoc⟩ := id hops
              subst hov
              have HCE := hid hcell
              clear hcell hops hoc
              go_upto_region 22 with fail
              refine wp_region_ask Try.mixed (by kernel_rfl) (fun val => { tmps := #[_, _, _, _, _, _, val 29, _, _, _, _, _, _, _, _, _, _, _, _, _, _, _, _, _, _, _, _, _, _, _, _, _, _, _, _, _, _, _, _, _, _, _, _, _, _, _, _, _, _, _, _, _, _, _, _, _, _, _, _, _, _, _, _, _, _, _, _, _, _, _, _, _, val 0, val 1, val 2, val 3, val 4, val 5, val 6, val 7, val 8, val 9, val 10, val 11, val 12, val 13, val 14, val 15, val 16, val 17, val 18, val 19, val 20, val 21, val 22, val 23, val 24, val 25, val 26, val 27, val 28], defers := [] }) (KR (.pointer (some ⟨tb, 0, none⟩)) (.slice (some ⟨b, o, none⟩) L.length c1) (L.length : Int) (r : Int) false false (.pointer (some ⟨b, o + r * 5, none⟩)) (.agg (txC (L.getD r default) (.slice oa (L.getD r default).ops.length oc))) (fun v w => ∃ (S : Nat → Prop) (na : Option Addr) (nc : Nat), v = .agg (txC (L.getD r default) (.slice na (L.getD r default).ops.length nc)) ∧ OpsIn S w (.slice na (L.getD r default).ops.length nc) (L.getD r default).ops)) (fun i => if i = 29 then _ else undef) rfl (fun i v w w2 hv hbw => KR.stab (fun v w w2 h hb => by obtain ⟨S, na, nc, h1, h2⟩ := h; exact ⟨S, na, nc, h1, h2.keep (keeps_below hb) (fun _ _ h => h)⟩) hv hbw) _ rfl ?_ ?_
              · refine ⟨?_, ?_, ?_, ?_, ?_, ?_, ?_, ?_, ?_, ?_, ?_, ?_, ?_, ?_, ?_, ?_, ?_, ?_, ?_, ?_, ?_, ?_, ?_, ?_, ?_, ?_, ?_, ?_, ?_, ?_, trivial⟩
                · refine ask_plain rfl (fun _ _ => rfl) (fun val W hb hd => ?_)
                  exact does_value rfl rfl
                · refine ask_plain rfl (fun _ _ => rfl) (fun val W hb hd => ?_)
                  exact does_value rfl rfl
                · refine ask_plain rfl (fun _ _ => rfl) (fun val W hb hd => ?_)
                  have h1 : val 1 = .slice (some ⟨b, o, none⟩) L.length c1 := depsAll_get hd 1 rfl
                  refine does_value (v := .int .i64 (L.length : Int)) ?_ rfl
                  simp [execOp, Act.eval, h1, go_sem]
                · refine ask_plain rfl (fun _ _ => rfl) (fun val W hb hd => ?_)
                  have h0 : val 0 = .pointer (some ⟨tb, 0, none⟩) := depsAll_get hd 0 rfl
                  have h2 : val 2 = .int .i64 (L.length : Int) := depsAll_get hd 2 rfl
                  refine does_call (f := 17) (args := #[.pointer (some ⟨tb, 0, none⟩), .int .i64 (L.length : Int)]) ?_ (TXO.out W _ (.inr (Int.le_refl _)) (BWR.trans (hb.mono BWR.size))) (fun e w2 h => ?_)
                  · simp [execOp, Act.eval, h0, h2, go_sem]
                  · obtain ⟨qa, qc, he, hbb⟩ := h
                    exact ⟨_, he, ⟨qa, qc, rfl⟩, hbb⟩
                · refine ask_plain rfl (fun _ _ => rfl) (fun val W hb hd => ?_)
                  exact does_value rfl rfl
                · refine ask_plain rfl (fun _ _ => rfl) (fun val W hb hd => ?_)
                  have h0 : val 4 = .pointer (some ⟨tb, 0, none⟩) := depsAll_get hd 4 rfl
                  refine does_call (f := 17) (args := #[.pointer (some ⟨tb, 0, none⟩), .int .i64 (-1)]) ?_ (TXO.out W _ (.inl (by decide)) (BWR.trans (hb.mono BWR.size))) (fun e w2 h => ?_)
                  · simp [execOp, Act.eval, h0, go_sem]
                  · obtain ⟨qa, qc, he, hbb⟩ := h
                    exact ⟨_, he, ⟨qa, qc, rfl⟩, hbb⟩
                · refine ask_plain rfl (fun _ _ => rfl) (fun val W hb hd => ?_)
                  have h3 : ZT (val 3) := depsAll_get hd 3 rfl
                  have h5 : ZT (val 5) := depsAll_get hd 5 rfl
                  obtain ⟨qa, qc, e3⟩ := h3
                  obtain ⟨qa2, qc2, e5⟩ := h5
                  refine does_grown (v := .slice (some ⟨W.heap.size, 0, none⟩) 2 2) (w' := W.alloc (.cells #[.int .i64 0, .int .i64 0, .int .i64 0, .int .i64 0, .slice qa 0 qc, .int .i64 0, .int .i64 0, .int .i64 0, .int .i64 0, .slice qa2 0 qc2] 36)) ?_ ⟨_, _, _, _, _, rfl, hp_new _ _⟩ (below_box _ _)
                  simp [execOp, Act.eval, e3, e5, go_sem]
                · refine ask_plain rfl (fun _ _ => rfl) (fun val W hb hd => ?_)
                  refine does_grown (v := .slice (some ⟨W.heap.size, 0, none⟩) 2 2) (w' := W.alloc (.cells #[.int .i64 0, .int .i64 0, .int .i64 0, .int .i64 0, .slice none 0 0, .int .i64 0, .int .i64 0, .int .i64 0, .int .i64 0, .slice none 0 0] 36)) ?_ ⟨_, _, _, _, _, rfl, hp_new _ _⟩ (below_box _ _)
                  have hmk2 := mk2 W
                  simp [execOp, Act.eval, hmk2, go_sem]
                · refine ask_plain rfl (fun _ _ => rfl) (fun val W hb hd => ?_)
                  have h6 : ZZ (val 6) W := depsAll_get hd 6 rfl
                  have h7 : ZZ (val 7) W := depsAll_get hd 7 rfl
                  obtain ⟨g1, x1, y1, x2, y2, e6, k6⟩ := h6
                  obtain ⟨g2, x3, y3, x4, y4, e7, k7⟩ := h7
                  refine does_call (f := 19) (args := #[.slice (some ⟨g1, 0, none⟩) 2 2, .slice (some ⟨g2, 0, none⟩) 2 2]) ?_ (zz_same W g1 g2 _ _ _ _ _ _ _ _ k6 k7) (fun e w2 h => ⟨_, h.1, rfl, h.2⟩)
                  simp [execOp, Act.eval, e6, e7, go_sem]
                · refine ask_plain rfl (fun _ _ => rfl) (fun val W hb hd => ?_)
                  have h8 : val 8 = .bool true := depsAll_get hd 8 rfl
                  exact does_value rfl h8
                · refine ask_yes 9 true rfl (fun _ _ => rfl) (fun val W hd => by have hj : val 9 = .bool true := depsAll_get hd 9 rfl; simp [yielded, hj]) (fun val W hb hd => ?_)
                  exact does_value rfl rfl
                · refine ask_yes 9 true rfl (fun _ _ => rfl) (fun val W hd => by have hj : val 9 = .bool true := depsAll_get hd 9 rfl; simp [yielded, hj]) (fun val W hb hd => ?_)
                  have h10 : val 10 = .int .i64 (r : Int) := depsAll_get hd 10 rfl
                  refine does_value (v := .bool false) ?_ rfl
                  simp [execOp, Act.eval, h10, hnd, go_sem]
                · refine ask_yes 9 true rfl (fun _ _ => rfl) (fun val W hd => by have hj : val 9 = .bool true := depsAll_get hd 9 rfl; simp [yielded, hj]) (fun val W hb hd => ?_)
                  have h11 : val 11 = .bool false := depsAll_get hd 11 rfl
                  exact does_value rfl h11
                · refine ask_yes 12 false rfl (fun _ _ => rfl) (fun val W hd => by have hj : val 12 = .bool false := depsAll_get hd 12 rfl; simp [yielded, hj]) (fun val W hb hd => ?_)
                  exact does_value rfl rfl
                · refine ask_yes 12 false rfl (fun _ _ => rfl) (fun val W hd => by have hj : val 12 = .bool false := depsAll_get hd 12 rfl; simp [yielded, hj]) (fun val W hb hd => ?_)
                  exact does_value rfl rfl
                · refine ask_yes 12 false rfl (fun _ _ => rfl) (fun val W hd => by have hj : val 12 = .bool false := depsAll_get hd 12 rfl; simp [yielded, hj]) (fun val W hb hd => ?_)
                  have h14 : val 14 = .slice (some ⟨b, o, none⟩) L.length c1 := depsAll_get hd 14 rfl
                  refine does_value (v := .int .i64 (L.length : Int)) ?_ rfl
                  simp [execOp, Act.eval, h14, go_sem]
                · refine ask_yes 12 false rfl (fun _ _ => rfl) (fun val W hd => by have hj : val 12 = .bool false := depsAll_get hd 12 rfl; simp [yielded, hj]) (fun val W hb hd => ?_)
                  have h13 : val 13 = .int .i64 (r : Int) := depsAll_get hd 13 rfl
                  have h15 : val 15 = .int .i64 (L.length : Int) := depsAll_get hd 15 rfl
                  refine does_value (v := .bool false) ?_ rfl
                  simp [execOp, Act.eval, h13, h15, hnd2, hrl, go_sem]
                · refine ask_yes 9 true rfl (fun _ _ => rfl) (fun val W hd => by have hj : val 9 = .bool true := depsAll_get hd 9 rfl; simp [yielded, hj]) (fun val W hb hd => ?_)
                  have h12 : val 12 = .bool false := depsAll_get hd 12 rfl
                  have h16 : val 16 = .bool false := depsAll_get hd 16 rfl
                  refine does_value (v := .bool false) ?_ rfl
                  simp [execOp, Act.eval, h12, h16, go_sem]
                · refine ask_yes 9 true rfl (fun _ _ => rfl) (fun val W hd => by have hj : val 9 = .bool true := depsAll_get hd 9 rfl; simp [yielded, hj]) (fun val W hb hd => ?_)
                  have h17 : val 17 = .bool false := depsAll_get hd 17 rfl
                  exact does_value rfl h17
                · refine ask_yes 18 false rfl (fun _ _ => rfl) (fun val W hd => by have hj : val 18 = .bool false := depsAll_get hd 18 rfl; simp [yielded, hj]) (fun val W hb hd => ?_)
                  exact does_value rfl rfl
                · refine ask_yes 18 false rfl (fun _ _ => rfl) (fun val W hd => by have hj : val 18 = .bool false := depsAll_get hd 18 rfl; simp [yielded, hj]) (fun val W hb hd => ?_)
                  exact does_value rfl rfl
                · refine ask_yes 18 false rfl (fun _ _ => rfl) (fun val W hd => by have hj : val 18 = .bool false := depsAll_get hd 18 rfl; simp [yielded, hj]) (fun val W hb hd => ?_)
                  have h19 : val 19 = .pointer (some ⟨tb, 0, none⟩) := depsAll_get hd 19 rfl
                  have h20 : val 20 = .int .i64 (r : Int) := depsAll_get hd 20 rfl
                  refine does_call (f := 17) (args := #[.pointer (some ⟨tb, 0, none⟩), .int .i64 (r : Int)]) ?_ (ttx_in _ W tb L (M4.out.later (BWR.trans (hb.mono BWR.size))) r hrl (by omega) HOK.out) (fun e w2 h => ?_)
                  · simp [execOp, Act.eval, h19, h20, go_sem]
                  · obtain ⟨na, nn, nc, he, h9, hbb⟩ := h
                    obtain ⟨_, _, hnn, _⟩ := id h9
                    obtain ⟨_, hnn, _⟩ := Value.slice.inj hnn
                    subst hnn
                    exact ⟨_, he, ⟨_, na, nc, rfl, h9.ops⟩, hbb⟩
                · refine ask_yes 18 false rfl (fun _ _ => rfl) (fun val W hd => by have hj : val 18 = .bool false := depsAll_get hd 18 rfl; simp [yielded, hj]) (fun val W hb hd => ?_)
                  exact does_value rfl rfl
                · refine ask_yes 18 false rfl (fun _ _ => rfl) (fun val W hd => by have hj : val 18 = .bool false := depsAll_get hd 18 rfl; simp [yielded, hj]) (fun val W hb hd => ?_)
                  exact does_value rfl rfl
                · refine ask_yes 18 false rfl (fun _ _ => rfl) (fun val W hd => by have hj : val 18 = .bool false := depsAll_get hd 18 rfl; simp [yielded, hj]) (fun val W hb hd => ?_)
                  have h22 : val 22 = .slice (some ⟨b, o, none⟩) L.length c1 := depsAll_get hd 22 rfl
                  have h23 : val 23 = .int .i64 (r : Int) := depsAll_get hd 23 rfl
                  refine does_value (v := .pointer (some ⟨b, o + r * 5, none⟩)) ?_ rfl
                  simp [execOp, Act.eval, h22, h23, go_sem, hrli, hr0]
                · refine ask_yes 18 false rfl (fun _ _ => rfl) (fun val W hd => by have hj : val 18 = .bool false := depsAll_get hd 18 rfl; simp [yielded, hj]) (fun val W hb hd => ?_)
                  have h24 : val 24 = .pointer (some ⟨b, o + r * 5, none⟩) := depsAll_get hd 24 rfl
                  have bW : Below w4.heap.size w4 W := BWR.trans (hb.mono BWR.size)
                  have d0 := (bW.cell (p := ⟨b, o + r * 5 + 0, none⟩) hbl).trans (HCE.out 0 _ rfl)
                  have d1 := (bW.cell (p := ⟨b, o + r * 5 + 1, none⟩) hbl).trans (HCE.out 1 _ rfl)
                  have d2 := (bW.cell (p := ⟨b, o + r * 5 + 2, none⟩) hbl).trans (HCE.out 2 _ rfl)
                  have d3 := (bW.cell (p := ⟨b, o + r * 5 + 3, none⟩) hbl).trans (HCE.out 3 _ rfl)
                  have d4 := (bW.cell (p := ⟨b, o + r * 5 + 4, none⟩) hbl).trans (HCE.out 4 _ rfl)
                  rw [Nat.add_zero] at d0
                  refine does_value (v := .agg (txC (L.getD r default) (.slice oa (L.getD r default).ops.length oc))) ?_ rfl
                  simp [execOp, Act.eval, h24, go_sem, d0, d1, d2, d3, d4, txC]
                · refine ask_yes 18 false rfl (fun _ _ => rfl) (fun val W hd => by have hj : val 18 = .bool false := depsAll_get hd 18 rfl; simp [yielded, hj]) (fun val W hb hd => ?_)
                  have h21 : ∃ (S : Nat → Prop) (na : Option Addr) (nc : Nat), val 21 = .agg (txC (L.getD r default) (.slice na (L.getD r default).ops.length nc)) ∧ OpsIn S W (.slice na (L.getD r default).ops.length nc) (L.getD r default).ops := depsAll_get hd 21 rfl
                  have h25 : val 25 = .agg (txC (L.getD r default) (.slice oa (L.getD r default).ops.length oc)) := depsAll_get hd 25 rfl
                  obtain ⟨S, na, nc, h21, k21⟩ := h21
                  have bW : Below w4.heap.size w4 W := BWR.trans (hb.mono BWR.size)
                  refine does_call (f := 18) (args := #[.agg (txC (L.getD r default) (.slice na (L.getD r default).ops.length nc)), .agg (txC (L.getD r default) (.slice oa (L.getD r default).ops.length oc))]) ?_ (sameTxn_is W _ _ _ k21 (HOPS.out.keep (keeps_below bW) (fun _ _ h => h))) (fun e w2 h => ⟨_, h.1, rfl, h.2⟩)
                  simp [execOp, Act.eval, h21, h25, go_sem]
                · refine ask_yes 9 true rfl (fun _ _ => rfl) (fun val W hd => by have hj : val 9 = .bool true := depsAll_get hd 9 rfl; simp [yielded, hj]) (fun val W hb hd => ?_)
                  have h18 : val 18 = .bool false := depsAll_get hd 18 rfl
                  have h26 : val 26 = .bool true := depsAll_get hd 26 rfl
                  refine does_value (v := .bool true) ?_ rfl
                  simp [execOp, Act.eval, h18, h26, go_sem]
                · refine ask_plain rfl (fun _ _ => rfl) (fun val W hb hd => ?_)
                  have h9 : val 9 = .bool true := depsAll_get hd 9 rfl
                  have h27 : val 27 = .bool true := depsAll_get hd 27 rfl
                  refine does_value (v := .bool true) ?_ rfl
                  simp [execOp, Act.eval, h9, h27, go_sem]
                · refine ask_plain rfl (fun _ _ => rfl) (fun val W hb hd => ?_)
                  have h28 : val 28 = .bool true := depsAll_get hd 28 rfl
                  exact does_value rfl h28
              · intro val W hbW hR
                have h29 : val 29 = .bool true := hR 29 (by decide)
                go_wp2_with fail
                go_ret
                exact ⟨rfl, B4.out.trans ((BWR.trans (hbW.mono BWR.size)).mono B4.out.size)⟩
end Go.Proofs.Ytibplfhkfkeloaa
