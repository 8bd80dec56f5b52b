/-
  The law TableFinals.
-/
import Derived.Test.YtppemdockjbkdaaTb15
namespace Go.Proofs.Ytppemdockjbkdaa
set_option linter.unusedVariables false
set_option linter.unusedSimpArgs false
open Go.RowKit Go.Lib Go.Maps
open Tx (MTxn info_parts flatten_len flatten_get RowsIn.cells RowCells TxnRow TxnsIn TxnsOwn setCell_self cloneInts_any OpsOwn smallL cutTxn cutOp)

theorem bool_of (p : Prop) : ∃ b : Bool, b = true ↔ p := by
  classical
  exact ⟨decide p, decide_eq_true_iff⟩
set_option maxHeartbeats 16000000 in
set_option maxRecDepth 100000 in
theorem tfinals_walk (tv : Value) (l0 : List MTxn) (n1 n2 : Int) (w : World) (ht : TxnsIn Any w tv l0) (hok : ∀ t ∈ l0, ∀ o ∈ t.ops, OpOk o) :
    Calls Try.prog 5 #[tv, .int .i64 n1, .int .i64 n2] w fun e w' => e = .returned (.bool true) ∧ Below w.heap.size w w' := by
  have HT := hid ht
  obtain ⟨L, hL⟩ : ∃ L, smallL l0 = L := ⟨_, rfl⟩
  have hlen : L.length ≤ 40 := by rw [← hL]; exact small_len l0
  have HTEN : Hid (∀ t ∈ L, t.ops.length ≤ 10) := fun t h => small_ten (by rw [hL]; exact h)
  have HOK : Hid (∀ t ∈ L, ∀ o ∈ t.ops, OpOk o) := fun t h => small_ok hok (by rw [hL]; exact h)
  have HL := hid hL
  have hli : (L.length : Int) ≤ 40 := by omega
  have hmm := @run_makeMap Try.prog
  clear ht hok hL
  go_enter Try.func5, Try.ntmps5
  go_wp2_with (go_at_call 7; refine (Tx.small_any _ l0 _ HT.out).mono ?_; rintro e w1 ⟨v1, rfl, h1, b1⟩; rw [show smallL l0 = L from HL.out] at h1; have T1 : Hid (TxnsIn Any w1 v1 L) := txns_ins h1; have B1 := hid b1; clear h1 b1)
  go_at_call 9
  refine (tnew_is w1 v1 L T1.out (by omega) HTEN.out HOK.out).mono ?_
  rintro e w2 ⟨tb, rfl, hm2, b2⟩
  have M2 := hid hm2
  have T2 : Hid (TxnsIn Any w2 v1 L) := T1.out.below b2
  have B2 : Hid (Below w.heap.size w w2) := B1.out.trans (b2.mono B1.out.size)
  obtain ⟨a1, c1, rfl, hc1⟩ := id T2.out
  have FT : Hid (∀ W, Below w2.heap.size w2 W → ∀ t i fB, (fB = true ↔ finL L t i) → Calls Try.prog 26 #[.pointer (some ⟨tb, 0, none⟩), .agg #[.int .i64 t, .int .i64 i]] W fun e w' => e = .returned (.bool fB) ∧ Below W.heap.size W w') := fun W hb t i fB hf => (tfinal_is _ W tb L (M2.out.later hb) t i (by omega) HTEN.out HOK.out).mono (fun e w' ⟨f, he, hff, hb'⟩ => ⟨by rw [he, Bool.eq_iff_iff.2 (hff.trans hf.symm)], hb'⟩)
  have RF : Hid (∀ W, Below w2.heap.size w2 W → ∀ t i fB, (fB = true ↔ finL L t i) → Calls Try.prog 27 #[.slice a1 L.length c1, .agg #[.int .i64 t, .int .i64 i]] W fun e w' => e = .returned (.bool fB) ∧ Below W.heap.size W w') := fun W hb t i fB hf => (rfinal_is W _ L t i (T2.out.below hb) (by omega) HTEN.out).mono (fun e w' ⟨f, he, hff, hb'⟩ => ⟨by rw [he, Bool.eq_iff_iff.2 (hff.trans hf.symm)], hb'⟩)
  obtain ⟨ao, cc, hao, hbytes, hrow⟩ := RowsIn.cells T2.out (by omega)
  have e1 : a1 = ao := by injection hao
  subst e1
  have HC := hid hrow
  have B20 : Hid (Below w2.heap.size w2 w2) := Below.refl _ _
  clear hm2 b2 T1 B1 hc1 M2 hao hbytes hrow
  go_wp2_with fail
  go_loopg [8, 9, 10, 11, 12, 13, 15, 23] L.length (fun gg _ _ _ _ _ _ _ i wr => ∃ k : Nat, k ≤ L.length ∧ L.length - k ≤ gg ∧ i = .int .i64 k ∧ Aside (Below w2.heap.size w2 wr))
  case atStart => exact ⟨0, Nat.zero_le _, by omega, rfl, B20.out⟩
  case round =>
    clear B20
    obtain ⟨k, hk, hgk, rfl, BR⟩ := hrel
    by_cases hlt : k < L.length
    · have hlti : (k : Int) < L.length := by omega
      obtain ⟨b, o, cs, rfl, hbl, _, ⟨ov, hcs, hops⟩, hcell⟩ := HC.out k hlt
      subst hcs
      obtain ⟨oa, oc, hov, hol, hoc⟩ := id hops
      subst hov
      have hmem : L.getD k default ∈ L := getD_mem L k hlt
      have d0 := (BR.out.cell (p := ⟨b, o + k * 5 + 0, none⟩) hbl).trans (hcell 0 _ rfl)
      have d1 := (BR.out.cell (p := ⟨b, o + k * 5 + 1, none⟩) hbl).trans (hcell 1 _ rfl)
      have d2 := (BR.out.cell (p := ⟨b, o + k * 5 + 2, none⟩) hbl).trans (hcell 2 _ rfl)
      have d3 := (BR.out.cell (p := ⟨b, o + k * 5 + 3, none⟩) hbl).trans (hcell 3 _ rfl)
      have d4 := (BR.out.cell (p := ⟨b, o + k * 5 + 4, none⟩) hbl).trans (hcell 4 _ rfl)
      rw [Nat.add_zero] at d0
      have hten : (L.getD k default).ops.length ≤ 10 := HTEN.out _ hmem
      have HOKT := hid (HOK.out _ hmem)
      have HOC := hid hoc
      have FL : Hid (∀ j : Nat, (finL L (k : Int) (j : Int) ↔ finT (L.getD k default).ops j)) := fun j => ⟨fun c => by have := c.2.2.2; simpa using this, fun c => ⟨by omega, hlti, by omega, by simpa using c⟩⟩
      obtain ⟨fb, hfb⟩ : ∃ fb : Nat → Bool, ∀ i, fb i = true ↔ finT (L.getD k default).ops i := Classical.skolem.1 (fun i => bool_of (finT (L.getD k default).ops i))
      have HFB := hid hfb
      have FMm := fun W : World => hid (FM.made W (L.getD k default).ops fb)
      have BN : ∀ x y, Hid (Below w2.heap.size w2 ((wr.alloc x).alloc y)) := fun x y => BR.out.trans ((((below_box wr _).alloc (by rw [alloc_size]; omega) _)).mono BR.out.size)
      have hwl : w2.heap.size ≤ wr.heap.size := BR.out.size
      generalize (L.getD k default).ops = T at *
      generalize L.getD k default = TX at *
      clear hcell hops hoc hmem hfb
      have hTi : (T.length : Int) ≤ 10 := by omega
      go_wp2_with fail
      obtain ⟨mb, hmb⟩ : ∃ mb, wr.heap.size + 1 = mb := ⟨_, rfl⟩
      have FM0 : Hid (FM ((wr.alloc (.cells #[.int .i64 TX.proc, .int .i64 TX.state, .int .i64 TX.since, .int .i64 TX.till, .slice oa T.length oc] 36)).alloc (.map #[] 0)) mb 0 T fb 0) := by
        have h := (FMm (wr.alloc (.cells #[.int .i64 TX.proc, .int .i64 TX.state, .int .i64 TX.since, .int .i64 TX.till, .slice oa T.length oc] 36))).out
        rw [alloc_size, hmb] at h
        exact h
      have hmbl : w2.heap.size < mb := by omega
      rw [hmb]
      clear FMm hmb
      go_loopg [11, 12, 13, 32] T.length (fun gg _ _ _ i wi => ∃ j : Nat, j ≤ T.length ∧ T.length - j ≤ gg ∧ i = .int .i64 j ∧ Aside (Below w2.heap.size w2 wi) ∧ Aside (∃ m, m ≤ j ∧ FM wi mb m T fb j))
      case atStart => exact ⟨0, Nat.zero_le _, by omega, rfl, (BN _ _).out, ⟨0, Nat.le_refl _, FM0.out⟩⟩
      case round =>
        clear BN BR d0 d1 d2 d3 d4 FM0
        obtain ⟨j, hj, hgj, rfl, BJ, FJ⟩ := hrel
        by_cases hjl : j < T.length
        · have hjli : (j : Int) < T.length := by omega
          obtain ⟨ob, oo, rfl, _, hcs⟩ := HOC.out (by omega)
          obtain ⟨cs, _, ⟨lv, hcse, hli2⟩, hcell⟩ := hcs j hjl
          subst hcse
          obtain ⟨la, lc, rfl, _⟩ := id hli2
          have hobl := World.block_lt_of_cell? _ _ (hcell 0 _ rfl)
          have x0 := (BJ.out.cell (p := ⟨ob, oo + j * 6 + 0, none⟩) hobl).trans (hcell 0 _ rfl)
          have x1 := (BJ.out.cell (p := ⟨ob, oo + j * 6 + 1, none⟩) hobl).trans (hcell 1 _ rfl)
          have x2 := (BJ.out.cell (p := ⟨ob, oo + j * 6 + 2, none⟩) hobl).trans (hcell 2 _ rfl)
          have x3 := (BJ.out.cell (p := ⟨ob, oo + j * 6 + 3, none⟩) hobl).trans (hcell 3 _ rfl)
          have x4 := (BJ.out.cell (p := ⟨ob, oo + j * 6 + 4, none⟩) hobl).trans (hcell 4 _ rfl)
          have x5 := (BJ.out.cell (p := ⟨ob, oo + j * 6 + 5, none⟩) hobl).trans (hcell 5 _ rfl)
          rw [Nat.add_zero] at x0
          obtain ⟨m, hm, hFM⟩ := FJ.out
          have hOP := HOKT.out _ (getD_mem T j hjl)
          have hkey : (T.getD j default).key.size ≤ maxLen := Nat.le_trans hOP.1 (by decide)
          have FB : Hid (fb j = true ↔ finL L (k : Int) (j : Int)) := (HFB.out j).trans (FL.out j).symm
          have SK : Hid (isW (T.getD j default).kind = false → ∀ W, W.heap[mb]? = wr.heap[mb]? → FM W mb m T fb (j + 1)) := fun hw W hW => (hFM.same hW).skip (fun i _ => HFB.out i) hjl hw
          have LK : Hid (∀ W, W.heap[mb]? = wr.heap[mb]? → (Instr.lookup 53 (.map (some mb)) (.string (T.getD j default).key) false).run Try.prog W = .ok (.int .i64 (finC T fb j (T.getD j default).key : Int)) W) := fun W hW => (hFM.same hW).look (fun i _ => HFB.out i) (by omega) _ hkey
          have PU : Hid (isW (T.getD j default).kind = true → ∀ W, W.heap[mb]? = wr.heap[mb]? → ∃ w', (Instr.mapUpdate 53 (.map (some mb)) (.string (T.getD j default).key) (.int .i64 (finC T fb (j + 1) (T.getD j default).key : Int))).run Try.prog W = .ok () w' ∧ FM w' mb (m + 1) T fb (j + 1) ∧ W.grownBy w' (some mb)) := fun hw W hW => (hFM.same hW).put (by unfold maxLen; omega) hkey hw
          have hFS : finC T fb (j + 1) (T.getD j default).key = finC T fb j (T.getD j default).key + (if fb j = true then 1 else 0) := by
            rw [finC]
            by_cases e : fb j = true <;> simp [e]
          have hF0 : finC T fb j (T.getD j default).key ≤ j := by
            have key : ∀ i s, finC T fb i s ≤ i := by
              intro i
              induction i with
              | zero => intro s; exact Nat.le_refl _
              | succ i ih =>
                intro s
                rw [finC]
                have := ih s
                split <;> omega
            exact key j _
          have hmbw : mb < wr.heap.size := hFM.lt
          clear hcell hcs hli2 hOP hkey hFM FJ
          generalize finC T fb (j + 1) (T.getD j default).key = C2 at *
          generalize finC T fb j (T.getD j default).key = C1 at *
          generalize T.getD j default = O at *
          generalize fb j = fB at *
          obtain ⟨ok, os, ovv, ol, oh, on⟩ := O
          simp only [MOp.kind, MOp.key, MOp.value, MOp.list, MOp.has, MOp.nl] at x0 x1 x2 x3 x4 x5 SK LK PU
          go_upto_region 11 with fail
          obtain ⟨Z, hZ⟩ : ∃ Z, (wr.alloc (.cells #[.int .i64 ok, .string os, .int .i64 ovv, .slice la ol.length lc, .bool oh, .bool on] 51)).alloc (.cells #[.int .i64 (k : Int), .int .i64 (j : Int)] 44) = Z := ⟨_, rfl⟩
          obtain ⟨xb, hxb⟩ : ∃ xb, wr.heap.size = xb := ⟨_, rfl⟩
          have p0 : Z.cell? ⟨xb, 0, none⟩ = some (.int .i64 ok) := by rw [← hZ, ← hxb]; simp
          have p1 : Z.cell? ⟨xb, 1, none⟩ = some (.string os) := by rw [← hZ, ← hxb]; simp
          have p2 : Z.cell? ⟨xb + 1, 0, none⟩ = some (.int .i64 (k : Int)) := by rw [← hZ, ← hxb]; simp
          have p3 : Z.cell? ⟨xb + 1, 1, none⟩ = some (.int .i64 (j : Int)) := by rw [← hZ, ← hxb]; simp
          have hZs : Z.heap.size = xb + 2 := by rw [← hZ, ← hxb, alloc_size, alloc_size]
          have BZw : Hid (Below wr.heap.size wr Z) := by rw [← hZ]; exact (below_box wr _).alloc (by rw [alloc_size]; omega) _
          have BZ : Hid (Below w2.heap.size w2 Z) := BJ.out.trans (BZw.out.mono BJ.out.size)
          have hmz : mb < xb := by omega
          have MZ : Hid (Z.heap[mb]? = wr.heap[mb]?) := BZw.out.block mb hmbw
          rw [hZ, hxb]
          clear hZ hxb BJ BZw x0 x1 x2 x3 x4 x5 hmbw
          have hff : (fB != fB) = false := by cases fB <;> rfl
          have F1 := hid (FT.out Z.drew BZ.out.drew (k : Int) (j : Int) fB FB.out)
          go_region_held3 (fun w' => w'.cell? ⟨xb + 1, 0, none⟩ = some (.int .i64 (k : Int)) ∧ w'.cell? ⟨xb + 1, 1, none⟩ = some (.int .i64 (j : Int))) (go_keep) ((first
            | (go_at_call 26; refine F1.out.mono ?_; rintro e w5 ⟨rfl, b5⟩; have B5 : Hid (Below Z.heap.size Z w5) := (Below.refl _ Z).drew.trans b5; have q2 := (B5.out.cell (p := ⟨xb + 1, 0, none⟩) (by show xb + 1 < Z.heap.size; omega)).trans p2; have q3 := (B5.out.cell (p := ⟨xb + 1, 1, none⟩) (by show xb + 1 < Z.heap.size; omega)).trans p3; have F2 := hid (RF.out w5 (BZ.out.trans (B5.out.mono BZ.out.size)) (k : Int) (j : Int) fB FB.out); clear b5)
            | (go_at_call 27; refine F2.out.mono ?_; rintro e w6 ⟨rfl, b6⟩; have B6 : Hid (Below Z.heap.size Z w6) := B5.out.trans (b6.mono B5.out.size); have r2 := (B6.out.cell (p := ⟨xb + 1, 0, none⟩) (by show xb + 1 < Z.heap.size; omega)).trans p2; have r3 := (B6.out.cell (p := ⟨xb + 1, 1, none⟩) (by show xb + 1 < Z.heap.size; omega)).trans p3; clear b6)))
          have s0 := (B6.out.cell (p := ⟨xb, 0, none⟩) (by show xb < Z.heap.size; omega)).trans p0
          have s1 := (B6.out.cell (p := ⟨xb, 1, none⟩) (by show xb < Z.heap.size; omega)).trans p1
          have B6w : Hid (Below w2.heap.size w2 w6) := BZ.out.trans (B6.out.mono BZ.out.size)
          have M6 : Hid (w6.heap[mb]? = wr.heap[mb]?) := (B6.out.block mb (by omega)).trans MZ.out
          have hz6 : Z.heap.size ≤ w6.heap.size := B6.out.size
          clear p0 p1 p2 p3 q2 q3 F1 F2 MZ BZ B5 B6
          have F3 := hid (FT.out w6 B6w.out (k : Int) (j : Int) fB FB.out)
          by_cases h1 : ok = 1
          · have b1 : (ok == 1) = true := by simp [h1]
            have b1n : (ok != 1) = false := by simp [h1]
            cases fB with
            | true =>
              have PU2 := hid (PU.out (by rw [h1]; rfl))
              clear SK PU
              go_upto_region 15 with (go_at_call 26; refine F3.out.mono ?_; rintro e w7 ⟨rfl, b7⟩; have B7 : Hid (Below w2.heap.size w2 w7) := B6w.out.trans (b7.mono B6w.out.size); have M7 : Hid (w7.heap[mb]? = wr.heap[mb]?) := (b7.block mb (by omega)).trans M6.out; have t1 := (b7.cell (p := ⟨xb, 1, none⟩) (by show xb < w6.heap.size; omega)).trans s1; clear b7)
              have LK7 := LK.out w7 M7.out
              obtain ⟨w8, U8, F8, G8⟩ := PU2.out w7 M7.out
              have hC2 : C2 = C1 + 1 := by simpa using hFS
              have U8' : (Instr.mapUpdate 53 (.map (some mb)) (.string os) (.int .i64 ((C1 : Int) + 1))).run Try.prog w7 = .ok () w8 := by rw [hC2] at U8; exact U8
              have B8 : Hid (Below w2.heap.size w2 w8) := ⟨G8.os.trans B7.out.os, G8.tape.trans B7.out.tape, G8.output.trans B7.out.output, by have := G8.size; have := B7.out.size; omega, fun b hb => (G8.block b (by have := B7.out.size; omega) (fun e => by have := Option.some.inj e; omega)).trans (B7.out.block b hb)⟩
              have F8' := hid F8
              have hC1i : (C1 : Int) ≤ 10 := by omega
              clear U8 F8 G8 LK PU2 F3 hC2 hFS s0 s1
              go_wp2_with fail
              go_roundg (T.length - (j + 1))
              case measure => omega
              case rel => exact ⟨j + 1, by omega, by omega, by go_num, B8.out, ⟨m + 1, by omega, F8'.out⟩⟩
            | false =>
              have PU2 := hid (PU.out (by rw [h1]; rfl))
              clear SK PU
              go_upto_region 16 with (go_at_call 26; refine F3.out.mono ?_; rintro e w7 ⟨rfl, b7⟩; have B7 : Hid (Below w2.heap.size w2 w7) := B6w.out.trans (b7.mono B6w.out.size); have M7 : Hid (w7.heap[mb]? = wr.heap[mb]?) := (b7.block mb (by omega)).trans M6.out; have t1 := (b7.cell (p := ⟨xb, 1, none⟩) (by show xb < w6.heap.size; omega)).trans s1; clear b7)
              have LK7 := LK.out w7 M7.out
              obtain ⟨w8, U8, F8, G8⟩ := PU2.out w7 M7.out
              have hC2 : C2 = C1 + 0 := by simpa using hFS
              have U8' : (Instr.mapUpdate 53 (.map (some mb)) (.string os) (.int .i64 (C1 : Int))).run Try.prog w7 = .ok () w8 := by rw [hC2] at U8; exact U8
              have B8 : Hid (Below w2.heap.size w2 w8) := ⟨G8.os.trans B7.out.os, G8.tape.trans B7.out.tape, G8.output.trans B7.out.output, by have := G8.size; have := B7.out.size; omega, fun b hb => (G8.block b (by have := B7.out.size; omega) (fun e => by have := Option.some.inj e; omega)).trans (B7.out.block b hb)⟩
              have F8' := hid F8
              have hC1i : (C1 : Int) ≤ 10 := by omega
              clear U8 F8 G8 LK PU2 F3 hC2 hFS s0 s1
              go_wp2_with fail
              go_roundg (T.length - (j + 1))
              case measure => omega
              case rel => exact ⟨j + 1, by omega, by omega, by go_num, B8.out, ⟨m + 1, by omega, F8'.out⟩⟩
          · have b1 : (ok == 1) = false := by simpa using h1
            have b1n : (ok != 1) = true := by simpa using h1
            by_cases h3 : ok = 3
            · have b3 : (ok == 3) = true := by simp [h3]
              have b3n : (ok != 3) = false := by simp [h3]
              cases fB with
              | true =>
                have PU2 := hid (PU.out (by rw [h3]; rfl))
                clear SK PU
                go_upto_region 15 with (go_at_call 26; refine F3.out.mono ?_; rintro e w7 ⟨rfl, b7⟩; have B7 : Hid (Below w2.heap.size w2 w7) := B6w.out.trans (b7.mono B6w.out.size); have M7 : Hid (w7.heap[mb]? = wr.heap[mb]?) := (b7.block mb (by omega)).trans M6.out; have t1 := (b7.cell (p := ⟨xb, 1, none⟩) (by show xb < w6.heap.size; omega)).trans s1; clear b7)
                have LK7 := LK.out w7 M7.out
                obtain ⟨w8, U8, F8, G8⟩ := PU2.out w7 M7.out
                have hC2 : C2 = C1 + 1 := by simpa using hFS
                have U8' : (Instr.mapUpdate 53 (.map (some mb)) (.string os) (.int .i64 ((C1 : Int) + 1))).run Try.prog w7 = .ok () w8 := by rw [hC2] at U8; exact U8
                have B8 : Hid (Below w2.heap.size w2 w8) := ⟨G8.os.trans B7.out.os, G8.tape.trans B7.out.tape, G8.output.trans B7.out.output, by have := G8.size; have := B7.out.size; omega, fun b hb => (G8.block b (by have := B7.out.size; omega) (fun e => by have := Option.some.inj e; omega)).trans (B7.out.block b hb)⟩
                have F8' := hid F8
                have hC1i : (C1 : Int) ≤ 10 := by omega
                clear U8 F8 G8 LK PU2 F3 hC2 hFS s0 s1
                go_wp2_with fail
                go_roundg (T.length - (j + 1))
                case measure => omega
                case rel => exact ⟨j + 1, by omega, by omega, by go_num, B8.out, ⟨m + 1, by omega, F8'.out⟩⟩
              | false =>
                have PU2 := hid (PU.out (by rw [h3]; rfl))
                clear SK PU
                go_upto_region 16 with (go_at_call 26; refine F3.out.mono ?_; rintro e w7 ⟨rfl, b7⟩; have B7 : Hid (Below w2.heap.size w2 w7) := B6w.out.trans (b7.mono B6w.out.size); have M7 : Hid (w7.heap[mb]? = wr.heap[mb]?) := (b7.block mb (by omega)).trans M6.out; have t1 := (b7.cell (p := ⟨xb, 1, none⟩) (by show xb < w6.heap.size; omega)).trans s1; clear b7)
                have LK7 := LK.out w7 M7.out
                obtain ⟨w8, U8, F8, G8⟩ := PU2.out w7 M7.out
                have hC2 : C2 = C1 + 0 := by simpa using hFS
                have U8' : (Instr.mapUpdate 53 (.map (some mb)) (.string os) (.int .i64 (C1 : Int))).run Try.prog w7 = .ok () w8 := by rw [hC2] at U8; exact U8
                have B8 : Hid (Below w2.heap.size w2 w8) := ⟨G8.os.trans B7.out.os, G8.tape.trans B7.out.tape, G8.output.trans B7.out.output, by have := G8.size; have := B7.out.size; omega, fun b hb => (G8.block b (by have := B7.out.size; omega) (fun e => by have := Option.some.inj e; omega)).trans (B7.out.block b hb)⟩
                have F8' := hid F8
                have hC1i : (C1 : Int) ≤ 10 := by omega
                clear U8 F8 G8 LK PU2 F3 hC2 hFS s0 s1
                go_wp2_with fail
                go_roundg (T.length - (j + 1))
                case measure => omega
                case rel => exact ⟨j + 1, by omega, by omega, by go_num, B8.out, ⟨m + 1, by omega, F8'.out⟩⟩
            · have b3 : (ok == 3) = false := by simpa using h3
              have b3n : (ok != 3) = true := by simpa using h3
              have FE := hid (SK.out (by simp [isW, h1, h3]) w6 M6.out)
              clear SK LK PU F3
              go_wp2_with fail
              go_roundg (T.length - (j + 1))
              case measure => omega
              case rel => exact ⟨j + 1, by omega, by omega, by go_num, B6w.out, ⟨m, by omega, FE.out⟩⟩
        · have hje : j = T.length := by omega
          obtain ⟨m, hm, f, hMV, hf⟩ := FJ.out
          have ONE : Hid (∀ s v, f (.string s) = some v → v = .int .i64 1) := fun s v hv => by
            rw [hf s, hje] at hv
            cases hw : wrote T T.length s with
            | true =>
              rw [hw, finC_one T fb (fun i _ => HFB.out i) s hw] at hv
              injection hv with hv
              exact hv.symm
            | false =>
              rw [hw] at hv
              cases hv
          have HM := hid hMV
          have hmbw : mb < wr.heap.size := hMV.lt
          have hwl2 : w2.heap.size ≤ wr.heap.size := BJ.out.size
          clear hje hMV hf FJ
          go_wp2_with (at_range; refine wpList_rangeV _ rfl _ 53 3 rfl Try.underlying9 keys9 Try.underlying53 mb m f rfl HM.out ?_; intro w0 left0 cnt0 hrg0 hcn0 hlf0 hg0 hs0; have RG0 := hid hrg0; have G0 := hid hg0; clear hrg0 hlf0 hg0 hcn0 hs0)
          go_frame
          obtain ⟨r, hr⟩ : ∃ r, wr.heap.size = r := ⟨_, rfl⟩
          have HRr := hid hr
          have BR0 : Hid (Below w2.heap.size w2 w0) := ⟨G0.out.os.trans BJ.out.os, G0.out.tape.trans BJ.out.tape, G0.out.output.trans BJ.out.output, by have := G0.out.size; omega, fun b hb => (G0.out.block b (by omega) (by simp)).trans (BJ.out.block b hb)⟩
          rw [hr] at RG0 ⊢
          have hrl : w2.heap.size ≤ r := by omega
          clear hr
          go_loopg [15] cnt0 (fun gk _ wi => ∃ (left : ByteArray → Bool) (cnt : Nat), cnt ≤ gk ∧ Aside (RangeV wi Try.prog mb r m f left cnt) ∧ Aside (Below w2.heap.size w2 wi))
          case atStart => exact ⟨left0, cnt0, Nat.le_refl _, RG0.out, BR0.out⟩
          case round =>
            obtain ⟨left, cnt, hgk2, RG, BG⟩ := hrel
            have hrg := RG.out
            go_wp2_with (at_next; refine wpList_nextV _ rfl _ rfl Try.underlying9 keys9 mb _ m f left cnt rfl hrg ?_ ?_)
            · intro hl0
              clear hl0 hrg
              go_wp2_with fail
              go_roundg (L.length - (k + 1))
              case measure => omega
              case rel => exact ⟨k + 1, by omega, by omega, by go_num, BG.out⟩
            · intro s v w3 cnt1 hs hl hfs hrg2 hlt2 hgr hsz2 hen
              have hv := ONE.out s v hfs
              subst hv
              have RG2 := hid hrg2
              have B3 : Hid (Below w2.heap.size w2 w3) := ⟨hgr.os.trans BG.out.os, hgr.tape.trans BG.out.tape, hgr.output.trans BG.out.output, by have := hgr.size; have := BG.out.size; omega, fun b hb => (hgr.block b (by have := BG.out.size; omega) (fun e => by have := Option.some.inj e; omega)).trans (BG.out.block b hb)⟩
              clear hfs hrg2 hgr hrg hl hsz2
              go_wp2_with fail
              go_roundg cnt1
              case measure => omega
              case rel => exact ⟨_, cnt1, Nat.le_refl _, RG2.out, B3.out⟩
    · obtain ⟨fB, hfB⟩ := bool_of (finL L n1 n2)
      have FB := hid hfB
      clear hfB
      go_upto_region 25 with fail
      obtain ⟨Z, hZ⟩ : ∃ Z, wr.alloc (.cells #[.int .i64 n1, .int .i64 n2] 44) = Z := ⟨_, rfl⟩
      obtain ⟨xb, hxb⟩ : ∃ xb, wr.heap.size = xb := ⟨_, rfl⟩
      have p2 : Z.cell? ⟨xb, 0, none⟩ = some (.int .i64 n1) := by rw [← hZ, ← hxb]; simp
      have p3 : Z.cell? ⟨xb, 1, none⟩ = some (.int .i64 n2) := by rw [← hZ, ← hxb]; simp
      have hZs : Z.heap.size = xb + 1 := by rw [← hZ, ← hxb, alloc_size]
      have BZ : Hid (Below w2.heap.size w2 Z) := by rw [← hZ]; exact BR.out.trans ((below_box wr _).mono BR.out.size)
      rw [hZ, hxb]
      clear hZ hxb BR
      have hff : (fB == fB) = true := by cases fB <;> rfl
      have F1 := hid (FT.out Z.drew BZ.out.drew n1 n2 fB FB.out)
      go_region_held3 (fun w' => w'.cell? ⟨xb, 0, none⟩ = some (.int .i64 n1) ∧ w'.cell? ⟨xb, 1, none⟩ = some (.int .i64 n2)) (go_keep) ((first
        | (go_at_call 26; refine F1.out.mono ?_; rintro e w5 ⟨rfl, b5⟩; have B5 : Hid (Below Z.heap.size Z w5) := (Below.refl _ Z).drew.trans b5; have q2 := (B5.out.cell (p := ⟨xb, 0, none⟩) (by show xb < Z.heap.size; omega)).trans p2; have q3 := (B5.out.cell (p := ⟨xb, 1, none⟩) (by show xb < Z.heap.size; omega)).trans p3; have F2 := hid (RF.out w5 (BZ.out.trans (B5.out.mono BZ.out.size)) n1 n2 fB FB.out); clear b5)
        | (go_at_call 27; refine F2.out.mono ?_; rintro e w6 ⟨rfl, b6⟩; have B6 : Hid (Below Z.heap.size Z w6) := B5.out.trans (b6.mono B5.out.size); have r2 := (B6.out.cell (p := ⟨xb, 0, none⟩) (by show xb < Z.heap.size; omega)).trans p2; have r3 := (B6.out.cell (p := ⟨xb, 1, none⟩) (by show xb < Z.heap.size; omega)).trans p3; clear b6)))
      have B7 : Hid (Below w.heap.size w w6) := B2.out.trans ((BZ.out.trans (B6.out.mono BZ.out.size)).mono B2.out.size)
      go_wp2_with fail
      go_ret
      exact ⟨rfl, B7.out⟩
end Go.Proofs.Ytppemdockjbkdaa
