/-
  The law TableWriters.
-/
import Derived.Test.YtppemdockjbkdaaTb10
namespace Go.Proofs.Ytppemdockjbkdaa
set_option linter.unusedVariables false
set_option linter.unusedSimpArgs false
open Go.RowKit Go.Lib Go.Maps Go.Sort
open Tx (MTxn info_parts flatten_len flatten_get RowsIn.cells RowCells TxnRow TxnsIn TxnsOwn setCell_self cloneInts_any OpsOwn smallL cutTxn cutOp)

set_option maxHeartbeats 8000000 in
set_option maxRecDepth 100000 in
theorem twriters_walk (tv : Value) (l0 : List MTxn) (key : ByteArray) (n0 : Int) (w : World) (ht : TxnsIn Any w tv l0) (hok : ∀ t ∈ l0, ∀ o ∈ t.ops, OpOk o) (hkey : key.size ≤ maxLen) (hn0 : (Lit.int .i64 n0).wf = true) :
    Calls Try.prog 4 #[tv, .string key, .int .i64 n0] w fun e w' => e = .returned (.bool true) ∧ Below w.heap.size w w' := by
  have HT := hid ht
  obtain ⟨L, hL⟩ : ∃ L, smallL l0 = L := ⟨_, rfl⟩
  have hlen : L.length ≤ 40 := by rw [← hL]; exact small_len l0
  have HTEN : Hid (∀ t ∈ L, t.ops.length ≤ 10) := fun t h => small_ten (by rw [hL]; exact h)
  have HOK : Hid (∀ t ∈ L, ∀ o ∈ t.ops, OpOk o) := fun t h => small_ok hok (by rw [hL]; exact h)
  have HL := hid hL
  have HKEY := hid hkey
  have HN0 := hid hn0
  have hli : (L.length : Int) ≤ 40 := by omega
  have hNl := notes_len L HTEN.out L.length
  clear ht hok hL hkey hn0
  go_enter Try.func4, Try.ntmps4
  go_wp2_with (go_at_call 7; refine (Tx.small_any _ l0 _ HT.out).mono ?_; rintro e w1 ⟨v1, rfl, h1, b1⟩; rw [show smallL l0 = L from HL.out] at h1; have T1 : Hid (TxnsIn Any w1 v1 L) := txns_ins h1; have B1 := hid b1; clear h1 b1)
  go_at_call 9
  refine (tnew_is w1 v1 L T1.out (by omega) HTEN.out HOK.out).mono ?_
  rintro e w2 ⟨tb, rfl, hm2, b2⟩
  have M2 := hid hm2
  have T2 : Hid (TxnsIn Any w2 v1 L) := T1.out.below b2
  have B2 : Hid (Below w.heap.size w w2) := B1.out.trans (b2.mono B1.out.size)
  obtain ⟨a1, c1, rfl, hc1⟩ := id T2.out
  have WR : Hid (∀ W, Below w2.heap.size w2 W → ∀ s x, s.size ≤ maxLen → (Lit.int .i64 x).wf = true → Calls Try.prog 21 #[.pointer (some ⟨tb, 0, none⟩), .string s, .int .i64 x] W fun e w' => ∃ ao c, e = .returned (.slice ao (writersN (notes L L.length) s x).length c) ∧ ArgW w' ao (writersN (notes L L.length) s x) ∧ Below W.heap.size W w') := fun W hb s x hs hx => (twriters_is _ W tb L (M2.out.later hb) s x hs hx (by omega)).mono (fun e w' ⟨v', he, ho, hb'⟩ => by
    obtain ⟨ao, c, rfl, ha⟩ := own_arg ho
    exact ⟨ao, c, he, ha, hb'⟩)
  have RR : Hid (∀ W, Below w2.heap.size w2 W → ∀ s x, Calls Try.prog 22 #[.slice a1 L.length c1, .string s, .int .i64 x] W fun e w' => ∃ ao c, e = .returned (.slice ao (writersN (notes L L.length) s x).length c) ∧ ArgW w' ao (writersN (notes L L.length) s x) ∧ Below W.heap.size W w') := fun W hb s x => (rwriters_is W _ L s x (T2.out.below hb) (by omega) HTEN.out).mono (fun e w' ⟨v', he, ho, hb'⟩ => by
    obtain ⟨ao, c, rfl, ha⟩ := own_arg ho
    exact ⟨ao, c, he, ha, hb'⟩)
  have UQ : Hid (∀ W, Below w2.heap.size w2 W → Calls Try.prog 23 #[.pointer (some ⟨tb, 0, none⟩)] W fun e w' => ∃ u : Bool, e = .returned (.bool u) ∧ (u = true ↔ uniqN (notes L L.length)) ∧ W = w') := fun W hb => uniq_is _ W tb L (M2.out.later hb)
  have RU : Hid (∀ W, Below w2.heap.size w2 W → Calls Try.prog 24 #[.slice a1 L.length c1] W fun e w' => ∃ u : Bool, e = .returned (.bool u) ∧ (u = true ↔ uniqN (notes L L.length)) ∧ Below W.heap.size W w') := fun W hb => runiq_is W _ L (T2.out.below hb) (by omega) HTEN.out
  have WL : Hid (∀ s x, (writersN (notes L L.length) s x).length ≤ 1000000) := fun s x => Nat.le_trans (writers_len _ _ _) (by omega)
  clear hm2 b2 T1 B1 hc1 M2
  go_wp2_with fail
  go_at_call 21
  refine (WR.out _ (Below.refl _ _) key n0 HKEY.out HN0.out).mono ?_
  rintro e w3 ⟨ra, rc, rfl, A3, b3⟩
  have H3 := hid A3
  have B3 := hid b3
  clear A3 b3
  go_wp2_with fail
  go_at_call 22
  refine (RR.out _ B3.out key n0).mono ?_
  rintro e w4 ⟨sa, sc, rfl, A4, b4⟩
  have H4 := hid A4
  have B4 : Hid (Below w2.heap.size w2 w4) := B3.out.trans (b4.mono B3.out.size)
  have EQ := hid (equal_writes ra sa rc sc _ w4 (H3.out.later b4) A4 (WL.out _ _))
  clear A4 b4
  go_wp2_with fail
  go_at_call 20
  refine EQ.out.mono ?_
  rintro e w5 ⟨rfl, q5, rfl⟩
  have B5 : Hid (Below w2.heap.size w2 (w4.drewN q5)) := below_drewN B4.out q5
  clear EQ H3 H4 B3 B4
  generalize w4.drewN q5 = w5 at *
  go_wp2_with fail
  go_at_call 23
  refine (UQ.out _ B5.out).mono ?_
  rintro e w5' ⟨u, rfl, hu, rfl⟩
  have HU := hid hu
  clear hu
  go_wp2_with fail
  go_at_call 24
  refine (RU.out _ B5.out).mono ?_
  rintro e w6 ⟨u', rfl, hu', b6⟩
  have huu : u = u' := by
    rw [Bool.eq_iff_iff]
    exact HU.out.trans hu'.symm
  subst huu
  have huu2 : (u != u) = false := by cases u <;> rfl
  have B6 : Hid (Below w2.heap.size w2 w6) := B5.out.trans (b6.mono B5.out.size)
  clear hu' b6 UQ RU B5
  go_wp2_with fail
  obtain ⟨ao, cc, hao, hbytes, hrow⟩ := RowsIn.cells T2.out (by omega)
  have e1 : a1 = ao := by injection hao
  subst e1
  have HC := hid hrow
  clear hao hbytes hrow
  go_loopg [8, 9, 10, 11, 12, 13, 37] L.length (fun gg _ _ _ _ _ _ i wr => ∃ k : Nat, k ≤ L.length ∧ L.length - k ≤ gg ∧ i = .int .i64 k ∧ Aside (Below w2.heap.size w2 wr))
  case atStart => exact ⟨0, Nat.zero_le _, by omega, rfl, B6.out⟩
  case round =>
    clear B6 HU huu2
    obtain ⟨k, hk, hgk, rfl, BR⟩ := hrel
    by_cases hlt : k < L.length
    · have hlti : (k : Int) < L.length := by omega
      obtain ⟨b, o, cs, rfl, hbl, _, ⟨ov, hcs, hops⟩, hcell⟩ := HC.out k hlt
      subst hcs
      obtain ⟨oa, oc, hov, hol, hoc⟩ := id hops
      subst hov
      have hmem : L.getD k default ∈ L := getD_mem L k hlt
      have d0 := (BR.out.cell (p := ⟨b, o + k * 5 + 0, none⟩) hbl).trans (hcell 0 _ rfl)
      have d1 := (BR.out.cell (p := ⟨b, o + k * 5 + 1, none⟩) hbl).trans (hcell 1 _ rfl)
      have d2 := (BR.out.cell (p := ⟨b, o + k * 5 + 2, none⟩) hbl).trans (hcell 2 _ rfl)
      have d3 := (BR.out.cell (p := ⟨b, o + k * 5 + 3, none⟩) hbl).trans (hcell 3 _ rfl)
      have d4 := (BR.out.cell (p := ⟨b, o + k * 5 + 4, none⟩) hbl).trans (hcell 4 _ rfl)
      rw [Nat.add_zero] at d0
      have hten : (L.getD k default).ops.length ≤ 10 := HTEN.out _ hmem
      have HOKT := hid (HOK.out _ hmem)
      have HOC := hid hoc
      have WM : Hid (∀ j, j < (L.getD k default).ops.length → (isW ((L.getD k default).ops.getD j default).kind = true ↔ (k, j) ∈ writersN (notes L L.length) ((L.getD k default).ops.getD j default).key ((L.getD k default).ops.getD j default).value)) := fun j hj => writers_mem L k j hlt hj
      have BN : ∀ x, Hid (Below w2.heap.size w2 (wr.alloc x)) := fun x => BR.out.trans ((below_box wr _).mono BR.out.size)
      generalize (L.getD k default).ops = T at *
      generalize L.getD k default = TX at *
      clear hcell hops hoc hmem
      go_wp2_with fail
      have hTi : (T.length : Int) ≤ 10 := by omega
      go_loopg [10, 11, 12, 13, 45] T.length (fun gg _ _ _ _ i wi => ∃ j : Nat, j ≤ T.length ∧ T.length - j ≤ gg ∧ i = .int .i64 j ∧ Aside (Below w2.heap.size w2 wi))
      case atStart => exact ⟨0, Nat.zero_le _, by omega, rfl, (BN _).out⟩
      case round =>
        clear BN BR d0 d1 d2 d3 d4
        obtain ⟨j, hj, hgj, rfl, BJ⟩ := hrel
        by_cases hjl : j < T.length
        · have hjli : (j : Int) < T.length := by omega
          obtain ⟨ob, oo, rfl, _, hcs⟩ := HOC.out (by omega)
          obtain ⟨cs, _, ⟨lv, hcse, hli2⟩, hcell⟩ := hcs j hjl
          subst hcse
          obtain ⟨la, lc, rfl, _⟩ := id hli2
          have hobl := World.block_lt_of_cell? _ _ (hcell 0 _ rfl)
          have x0 := (BJ.out.cell (p := ⟨ob, oo + j * 6 + 0, none⟩) hobl).trans (hcell 0 _ rfl)
          have x1 := (BJ.out.cell (p := ⟨ob, oo + j * 6 + 1, none⟩) hobl).trans (hcell 1 _ rfl)
          have x2 := (BJ.out.cell (p := ⟨ob, oo + j * 6 + 2, none⟩) hobl).trans (hcell 2 _ rfl)
          have x3 := (BJ.out.cell (p := ⟨ob, oo + j * 6 + 3, none⟩) hobl).trans (hcell 3 _ rfl)
          have x4 := (BJ.out.cell (p := ⟨ob, oo + j * 6 + 4, none⟩) hobl).trans (hcell 4 _ rfl)
          have x5 := (BJ.out.cell (p := ⟨ob, oo + j * 6 + 5, none⟩) hobl).trans (hcell 5 _ rfl)
          rw [Nat.add_zero] at x0
          have hWM := WM.out j hjl
          have hOP := HOKT.out _ (getD_mem T j hjl)
          clear hcell hcs hli2
          generalize T.getD j default = O at *
          obtain ⟨ok, os, ovv, ol, oh, on⟩ := O
          simp only [MOp.kind, MOp.key, MOp.value, MOp.list, MOp.has, MOp.nl] at x0 x1 x2 x3 x4 x5 hWM
          have HWM := hid hWM
          have hO1 : os.size ≤ maxLen := Nat.le_trans hOP.1 (by decide)
          have hO2 : (Lit.int .i64 ovv).wf = true := hOP.2
          have HO1 := hid hO1
          have HO2 := hid hO2
          clear hWM hOP hO1 hO2
          go_upto_region 11 with fail
          obtain ⟨Wb, hWb⟩ : ∃ Wb, wr.alloc (.cells #[.int .i64 ok, .string os, .int .i64 ovv, .slice la ol.length lc, .bool oh, .bool on] 51) = Wb := ⟨_, rfl⟩
          obtain ⟨xb, hxb⟩ : ∃ xb, wr.heap.size = xb := ⟨_, rfl⟩
          have p0 : Wb.cell? ⟨xb, 0, none⟩ = some (.int .i64 ok) := by rw [← hWb, ← hxb]; simp
          have p1 : Wb.cell? ⟨xb, 1, none⟩ = some (.string os) := by rw [← hWb, ← hxb]; simp
          have p2 : Wb.cell? ⟨xb, 2, none⟩ = some (.int .i64 ovv) := by rw [← hWb, ← hxb]; simp
          have hxl : xb < Wb.heap.size := by rw [← hWb, ← hxb, alloc_size]; omega
          have BB : Hid (Below w2.heap.size w2 Wb) := by rw [← hWb]; exact BJ.out.trans ((below_box wr _).mono BJ.out.size)
          have WRc := hid (WR.out Wb BB.out os ovv HO1.out HO2.out)
          rw [hWb, hxb]
          have HWb := hid hWb
          clear hWb hxb BJ x0 x1 x2 x3 x4 x5
          go_wp2_with fail
          go_at_call 21
          refine WRc.out.mono ?_
          rintro e w7 ⟨ra, rc, rfl, A7, b7⟩
          have H7 := hid A7
          have B7 : Hid (Below w2.heap.size w2 w7) := BB.out.trans (b7.mono BB.out.size)
          have q0 := (b7.cell (p := ⟨xb, 0, none⟩) hxl).trans p0
          have q1 := (b7.cell (p := ⟨xb, 1, none⟩) hxl).trans p1
          have q2 := (b7.cell (p := ⟨xb, 2, none⟩) hxl).trans p2
          have hxl7 : xb < w7.heap.size := Nat.lt_of_lt_of_le hxl b7.size
          clear A7 b7 p0 p1 p2 hxl WRc BB
          go_wp2_with fail
          go_at_call 22
          refine (RR.out _ B7.out os ovv).mono ?_
          rintro e w8 ⟨sa, sc, rfl, A8, b8⟩
          have H8 : Hid (ArgW w8 ra (writersN (notes L L.length) os ovv)) := H7.out.later b8
          have EQ := hid (equal_writes ra sa rc sc _ w8 H8.out A8 (WL.out _ _))
          have B8 : Hid (Below w2.heap.size w2 w8) := B7.out.trans (b8.mono B7.out.size)
          have r0 := (b8.cell (p := ⟨xb, 0, none⟩) hxl7).trans q0
          have hxl8 : xb < w8.heap.size := Nat.lt_of_lt_of_le hxl7 b8.size
          clear A8 b8 q0 q1 q2 H7 B7 hxl7
          go_wp2_with fail
          go_at_call 20
          refine EQ.out.mono ?_
          rintro e w9 ⟨rfl, q9, rfl⟩
          have H9 : Hid (ArgW (w8.drewN q9) ra (writersN (notes L L.length) os ovv)) := H8.out.later (below_drewN (Below.refl _ _) q9)
          have B9 : Hid (Below w2.heap.size w2 (w8.drewN q9)) := below_drewN B8.out q9
          have s0 := (drawn_cell w8 q9 ⟨xb, 0, none⟩).trans r0
          clear H8 B8 r0 EQ hxl8
          generalize w8.drewN q9 = w9 at *
          have CW := hid (fun r hr => contains_writes ra rc (writersN (notes L L.length) os ovv) k j w9 H9.out (WL.out _ _) r hr)
          by_cases h1 : ok = 1
          · have b1 : (ok == 1) = true := by simp [h1]
            have CC := hid (CW.out true (by have e : isW ok = true := (by rw [h1]; rfl); have h := HWM.out; rw [e] at h; exact h))
            clear CW h1
            go_wp2_with (go_at_call 25; refine CC.out.mono ?_; rintro e w10 ⟨rfl, b10⟩; have B10 : Hid (Below w2.heap.size w2 w10) := B9.out.trans (b10.mono B9.out.size); clear b10)
            go_roundg (T.length - (j + 1))
            case measure => omega
            case rel => exact ⟨j + 1, by omega, by omega, by go_num, B10.out⟩
          · have b1 : (ok == 1) = false := by simpa using h1
            by_cases h3 : ok = 3
            · have b3 : (ok == 3) = true := by simp [h3]
              have CC := hid (CW.out true (by have e : isW ok = true := (by rw [h3]; rfl); have h := HWM.out; rw [e] at h; exact h))
              clear CW h3
              go_wp2_with (go_at_call 25; refine CC.out.mono ?_; rintro e w10 ⟨rfl, b10⟩; have B10 : Hid (Below w2.heap.size w2 w10) := B9.out.trans (b10.mono B9.out.size); clear b10)
              go_roundg (T.length - (j + 1))
              case measure => omega
              case rel => exact ⟨j + 1, by omega, by omega, by go_num, B10.out⟩
            · have b3 : (ok == 3) = false := by simpa using h3
              have CC := hid (CW.out false (by have e : isW ok = false := (by simp [isW, h1, h3]); have h := HWM.out; rw [e] at h; exact h))
              clear CW
              go_wp2_with (go_at_call 25; refine CC.out.mono ?_; rintro e w10 ⟨rfl, b10⟩; have B10 : Hid (Below w2.heap.size w2 w10) := B9.out.trans (b10.mono B9.out.size); clear b10)
              go_roundg (T.length - (j + 1))
              case measure => omega
              case rel => exact ⟨j + 1, by omega, by omega, by go_num, B10.out⟩
        · go_wp2_with fail
          go_roundg (L.length - (k + 1))
          case measure => omega
          case rel => exact ⟨k + 1, by omega, by omega, by go_num, BJ.out⟩
    · have BE : Hid (Below w.heap.size w wr) := B2.out.trans (BR.out.mono B2.out.size)
      go_wp2_with fail
      go_ret
      exact ⟨rfl, BE.out⟩
end Go.Proofs.Ytppemdockjbkdaa
