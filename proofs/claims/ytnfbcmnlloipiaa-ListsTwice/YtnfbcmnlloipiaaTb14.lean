/-
  The document's Final.
-/
import Derived.Test.YtnfbcmnlloipiaaTb13
import Derived.Shelf.SlSortCmp.QuietGrown
import Derived.BigQuiet
namespace Go.Proofs.Ytnfbcmnlloipiaa
set_option linter.unusedVariables false
set_option linter.unusedSimpArgs false
open Go.RowKit Go.Lib Go.Maps Go.Sort
open Tx (MTxn info_parts flatten_len flatten_get RowsIn.cells RowCells TxnRow TxnsIn TxnsOwn setCell_self cloneInts_any OpsOwn smallL cutTxn cutOp)

theorem alloc_grow (w : World) (o : Obj) : w.alloc o = grow (w.drewN 0) #[o] := by
  unfold grow World.alloc World.drewN
  simp
theorem write_g (k : Int) (s : ByteArray) (x : Int) (lv : Value) (h n : Bool) (w : World) (r : Bool) (hr : isW k = r) : Calls Try.prog 63 #[.agg #[.int .i64 k, .string s, .int .i64 x, lv, .bool h, .bool n]] w fun e w' => e = .returned (.bool r) ∧ ∃ q os, w' = grow (w.drewN q) os := by
  subst hr
  by_cases h1 : k = 1
  · subst h1
    go_enter Try.func63, Try.ntmps63
    go_wp2_with fail
    go_ret
    exact ⟨rfl, 0, #[_], alloc_grow w _⟩
  · by_cases h2 : k = 3
    · subst h2
      go_enter Try.func63, Try.ntmps63
      go_wp2_with fail
      go_ret
      exact ⟨rfl, 0, #[_], alloc_grow w _⟩
    · have e1 : (k == 1) = false := by simp [h1]
      have e2 : (k == 3) = false := by simp [h2]
      have e : Hid (isW k = false) := by show isW k = false; simp [isW, h1, h2]
      clear h1 h2
      go_enter Try.func63, Try.ntmps63
      go_wp2_with fail
      go_ret
      exact ⟨by rw [e.out]; rfl, 0, #[_], alloc_grow w _⟩
theorem Try.mixed : Try.prog.follows .mixedOrders = true := by kernel_rfl
theorem below_grow (w : World) (n : Nat) (os : Array Obj) : Below w.heap.size w (grow (w.drewN n) os) :=
  ⟨rfl, rfl, rfl, by show w.heap.size ≤ (w.heap ++ os).size; simp, fun k hk => heap_grow_old (w.drewN n) os hk⟩
theorem gcell {w : World} {a : Addr} {v : Value} (h : w.cell? a = some v) (n : Nat) (os : Array Obj) : (grow (w.drewN n) os).cell? a = some v :=
  ((below_grow w n os).cell (p := a) (World.block_lt_of_cell? _ _ h)).trans h
set_option maxHeartbeats 8000000 in
set_option maxRecDepth 100000 in
theorem rfinal_is {S : Nat → Prop} (w : World) (v : Value) (l : List MTxn) (t i : Int) (h : TxnsIn S w v l) (hl : l.length ≤ 1000) (hten : ∀ t ∈ l, t.ops.length ≤ 10) :
    Calls Try.prog 77 #[v, .agg #[.int .i64 t, .int .i64 i]] w fun e w' => FPost l t i w e w' := by
  obtain ⟨a1, c1, rfl, l1, k1⟩ := RowsIn.cells h (by omega)
  obtain ⟨W, hW⟩ : ∃ W, w.alloc (.cells #[.int .i64 t, .int .i64 i] 54) = W := ⟨_, rfl⟩
  have BW : Hid (Below w.heap.size w W) := by rw [← hW]; exact below_box w _
  obtain ⟨xb, hxb⟩ : ∃ xb, w.heap.size = xb := ⟨_, rfl⟩
  have p0 : W.cell? ⟨xb, 0, none⟩ = some (.int .i64 t) := by rw [← hW, ← hxb]; simp
  have p1 : W.cell? ⟨xb, 1, none⟩ = some (.int .i64 i) := by rw [← hW, ← hxb]; simp
  have hxl : xb < W.heap.size := by rw [← hW, ← hxb, alloc_size]; omega
  have HW := hid hW
  have HXB := hid hxb
  have HTEN := hid hten
  have HC := hid k1
  have hli : (l.length : Int) ≤ 1000 := by omega
  have BQ : ∀ q, Hid (Below w.heap.size w (W.drewN q)) := fun q => ⟨BW.out.os, BW.out.tape, BW.out.output, BW.out.size, BW.out.block⟩
  clear hW hxb h hten k1
  go_enter Try.func77, Try.ntmps77
  go_upto_region 1 with fail
  rw [show w.alloc (.cells #[.int .i64 t, .int .i64 i] 54) = W from HW.out, show w.heap.size = xb from HXB.out]
  by_cases ht0 : t < 0
  · have HF : Hid (¬ finL l t i) := fun c => by have := c.1; omega
    go_quiet (fail)
    go_wp2_with fail
    go_ret
    exact ⟨false, rfl, ⟨fun c => absurd c (by decide), fun c => absurd c HF.out⟩, (by first | exact (BQ _).out | exact below_drewN2 BW.out _ _)⟩
  · have ht1 : 0 ≤ t := by omega
    by_cases htl : t < l.length
    · have htg : ¬ ((l.length : Int) ≤ t) := by omega
      have htd : decide ((l.length : Int) ≤ t) = false := by simpa using htg
      obtain ⟨tn, htn⟩ : ∃ tn : Nat, t = tn := ⟨t.toNat, by omega⟩
      subst htn
      have htl2 : tn < l.length := by omega
      obtain ⟨b, o, cs, rfl, hbl, _, ⟨ov, hcs, hops⟩, hcell⟩ := HC.out tn htl2
      subst hcs
      have d4 := (BW.out.cell (p := ⟨b, o + tn * 5 + 4, none⟩) hbl).trans (hcell 4 _ rfl)
      obtain ⟨oa, oc, hov, hol, hoc⟩ := id hops
      subst hov
      have hT10 : (l.getD tn default).ops.length ≤ 10 := HTEN.out _ (getD_mem l tn htl2)
      have FD : Hid (finL l (tn : Int) i ↔ (0 ≤ i ∧ finT (l.getD tn default).ops i.toNat)) := ⟨fun c => ⟨c.2.2.1, c.2.2.2⟩, fun c => ⟨by omega, htl, c.1, c.2⟩⟩
      have HOC := hid hoc
      clear hcell hops hoc
      generalize (l.getD tn default).ops = T at *
      have hTi : (T.length : Int) ≤ 10 := by omega
      by_cases hi0 : i < 0
      · have HF : Hid (¬ finL l (tn : Int) i) := fun c => by have := (FD.out.1 c).1; omega
        go_quiet (fail)
        go_wp2_with fail
        go_ret
        exact ⟨false, rfl, ⟨fun c => absurd c (by decide), fun c => absurd c HF.out⟩, (by first | exact (BQ _).out | exact below_drewN2 BW.out _ _)⟩
      · have hi1 : 0 ≤ i := by omega
        by_cases hil : i < T.length
        · obtain ⟨n, hn⟩ : ∃ n : Nat, i = n := ⟨i.toNat, by omega⟩
          subst hn
          have hnl : n < T.length := by omega
          have hig : ¬ ((T.length : Int) ≤ n) := by omega
          have hid' : decide ((T.length : Int) ≤ n) = false := by simpa using hig
          obtain ⟨ob, oo, rfl, _, hcs⟩ := HOC.out (by omega)
          obtain ⟨cs, _, ⟨lv, hcse, hlv⟩, hcell⟩ := hcs n hnl
          subst hcse
          obtain ⟨la, lc, rfl, _⟩ := id hlv
          have hobl := World.block_lt_of_cell? _ _ (hcell 0 _ rfl)
          have x0 := (BW.out.cell (p := ⟨ob, oo + n * 6 + 0, none⟩) hobl).trans (hcell 0 _ rfl)
          have x1 := (BW.out.cell (p := ⟨ob, oo + n * 6 + 1, none⟩) hobl).trans (hcell 1 _ rfl)
          have x2 := (BW.out.cell (p := ⟨ob, oo + n * 6 + 2, none⟩) hobl).trans (hcell 2 _ rfl)
          have x3 := (BW.out.cell (p := ⟨ob, oo + n * 6 + 3, none⟩) hobl).trans (hcell 3 _ rfl)
          have x4 := (BW.out.cell (p := ⟨ob, oo + n * 6 + 4, none⟩) hobl).trans (hcell 4 _ rfl)
          have x5 := (BW.out.cell (p := ⟨ob, oo + n * 6 + 5, none⟩) hobl).trans (hcell 5 _ rfl)
          rw [Nat.add_zero] at x0
          have FD2 : Hid (finL l (tn : Int) (n : Int) ↔ finT T n) := FD.out.trans ⟨fun c => c.2, fun c => ⟨by omega, c⟩⟩
          have HCS := hid hcs
          have HX : Hid (finT T n → isW (T.getD n default).kind = true) := fun c => c.2.1
          have HFT : Hid (isW (T.getD n default).kind = true → (∀ j, n < j → j < T.length → ¬ (isW (T.getD j default).kind = true ∧ (T.getD j default).key = (T.getD n default).key)) → finT T n) := fun a b => ⟨hnl, a, b⟩
          have HBD : Hid (∀ j, n < j → j < T.length → (isW (T.getD j default).kind = true ∧ (T.getD j default).key = (T.getD n default).key) → ¬ finT T n) := fun j a b c d => d.2.2 j a b c
          clear hcs hcell hlv HOC
          have HTN : Hid (∃ O, T.getD n default = O) := ⟨_, rfl⟩
          generalize T.getD n default = O at x0 x1 x2 x3 x4 x5 HX HFT HBD
          obtain ⟨ok, KY, ovv, ol, oh, on⟩ := O
          simp only [MOp.kind, MOp.key, MOp.value, MOp.list, MOp.has, MOp.nl] at x0 x1 x2 x3 x4 x5 HX HFT HBD
          have RW := hid (fun W => rwrite_is (ok, KY, ovv, ol, oh, on) la lc W)
          simp only [opV, MOp.kind, MOp.key, MOp.value, MOp.list, MOp.has, MOp.nl] at RW
          go_quiet (fail)
          have BV : Hid (Below w.heap.size w (W.drewN nq)) := (BQ nq).out
          have y1 : (W.drewN nq).cell? ⟨ob, oo + n * 6 + 1, none⟩ = some (.string KY) := x1
          have yp : (W.drewN nq).cell? ⟨xb, 1, none⟩ = some (.int .i64 (n : Int)) := p1
          have hobW : ob < (W.drewN nq).heap.size := Nat.lt_of_lt_of_le hobl BW.out.size
          have hxW : xb < (W.drewN nq).heap.size := hxl
          have RWV := hid (RW.out (W.drewN nq))
          cases hw : isW ok with
          | false =>
            rw [hw] at RWV
            have HF : Hid (¬ finL l (tn : Int) (n : Int)) := fun c => by have := HX.out (FD2.out.1 c); rw [hw] at this; cases this
            clear hw
            go_wp2_with (go_at_call 63; refine RWV.out.mono ?_; rintro e w2 ⟨rfl, b2⟩; have B2 : Hid (Below w.heap.size w w2) := BV.out.trans (b2.mono BV.out.size); clear b2)
            go_ret
            exact ⟨false, rfl, ⟨fun c => absurd c (by decide), fun c => absurd c HF.out⟩, B2.out⟩
          | true =>
            rw [hw] at RWV
            have HFT2 := hid (HFT.out hw)
            clear hw HFT HX
            have hn1 : ((n : Int) + 1) ≤ T.length := by omega
            have hn2 : ((n : Int) + 1) ≤ oc := by omega
            go_upto_region 6 with (go_at_call 63; refine RWV.out.mono ?_; rintro e w2 ⟨rfl, b2⟩; have B2 : Hid (Below w.heap.size w w2) := BV.out.trans (b2.mono BV.out.size); have z1 : w2.cell? ⟨ob, oo + n * 6 + 1, none⟩ = some (.string KY) := (b2.cell (p := ⟨ob, oo + n * 6 + 1, none⟩) hobW).trans y1; have zp : w2.cell? ⟨xb, 1, none⟩ = some (.int .i64 (n : Int)) := (b2.cell (p := ⟨xb, 1, none⟩) hxW).trans yp; have hob2 : ob < w2.heap.size := Nat.lt_of_lt_of_le hobW b2.size; have hx2 : xb < w2.heap.size := Nat.lt_of_lt_of_le hxW b2.size; clear b2)
            clear x0 x1 x2 x3 x4 x5 y1 yp hobW hxW p0 p1 d4 RWV BV
            by_cases hcap : oc = n + 1
            · have hTn : T.length = n + 1 := by omega
              have FIN : Hid (finL l (tn : Int) (n : Int)) := FD2.out.2 (HFT2.out (fun j a b => by omega))
              clear FD2 HFT2 HBD
              go_wp2_with fail
              go_loopg [7, 54] 0 (fun gg _ i wr => i = .int .i64 0 ∧ Aside (Below w.heap.size w wr))
              case atStart => exact ⟨rfl, B2.out⟩
              case round =>
                obtain ⟨rfl, BR⟩ := hrel
                have hR0 : T.length - (n + 1) = 0 := by omega
                go_wp2_with fail
                go_ret
                exact ⟨true, rfl, ⟨fun _ => FIN.out, fun _ => rfl⟩, BR.out⟩
            · go_wp2_with fail
              have hRl : T.length - (n + 1) + (n + 1) = T.length := by omega
              generalize T.length - (n + 1) = R at *
              have hRi : (R : Int) ≤ 10 := by omega
              have B20 : Hid (Below w2.heap.size w2 w2) := Below.refl _ _
              go_loopg [7, 54] R (fun gg _ i wr => ∃ j : Nat, j ≤ R ∧ R - j ≤ gg ∧ i = .int .i64 j ∧ Aside (Below w2.heap.size w2 wr) ∧ Aside (∀ m, n < m → m < n + 1 + j → ¬ (isW (T.getD m default).kind = true ∧ (T.getD m default).key = KY)))
              case atStart => exact ⟨0, Nat.zero_le _, by omega, rfl, B20.out, fun m a b => by omega⟩
              case round =>
                clear B20
                obtain ⟨j, hj, hgj, rfl, BJ, NJ⟩ := hrel
                have BJ2 : Hid (Below w.heap.size w wr) := B2.out.trans (BJ.out.mono B2.out.size)
                by_cases hjl : j < R
                · have hjli : (j : Int) < R := by omega
                  obtain ⟨cs, _, ⟨lv2, hcse, hlv2⟩, hcell⟩ := HCS.out (n + 1 + j) (by omega)
                  subst hcse
                  obtain ⟨la2, lc2, rfl, _⟩ := id hlv2
                  have ea : ∀ k, oo + (n + 1) * 6 + j * 6 + k = oo + (n + 1 + j) * 6 + k := fun k => by omega
                  have gk : ∀ k u, w.cell? ⟨ob, oo + (n + 1 + j) * 6 + k, none⟩ = some u → wr.cell? ⟨ob, oo + (n + 1) * 6 + j * 6 + k, none⟩ = some u := fun k u hh => (BJ2.out.cell (p := ⟨ob, oo + (n + 1) * 6 + j * 6 + k, none⟩) hobl).trans (by rw [ea k]; exact hh)
                  have g0 := gk 0 _ (hcell 0 _ rfl)
                  have g1 := gk 1 _ (hcell 1 _ rfl)
                  have g2 := gk 2 _ (hcell 2 _ rfl)
                  have g3 := gk 3 _ (hcell 3 _ rfl)
                  have g4 := gk 4 _ (hcell 4 _ rfl)
                  have g5 := gk 5 _ (hcell 5 _ rfl)
                  rw [Nat.add_zero] at g0
                  clear gk
                  have HB3 := hid (HBD.out (n + 1 + j) (by omega) (by omega))
                  have NX : Hid (¬ (isW (T.getD (n + 1 + j) default).kind = true ∧ (T.getD (n + 1 + j) default).key = KY) → ∀ m, n < m → m < n + 1 + (j + 1) → ¬ (isW (T.getD m default).kind = true ∧ (T.getD m default).key = KY)) := fun hne m a b => by
                    by_cases e : m = n + 1 + j
                    · rw [e]; exact hne
                    · exact NJ.out m a (by omega)
                  clear hcell hlv2 ea NJ
                  generalize T.getD (n + 1 + j) default = O2 at *
                  obtain ⟨ok2, os2, ov2, ol2, oh2, on2⟩ := O2
                  simp only [MOp.kind, MOp.key, MOp.value, MOp.list, MOp.has, MOp.nl] at g0 g1 g2 g3 g4 g5 HB3 NX
                  have RW2 := hid (fun W => rwrite_is (ok2, os2, ov2, ol2, oh2, on2) la2 lc2 W)
                  simp only [opV, MOp.kind, MOp.key, MOp.value, MOp.list, MOp.has, MOp.nl] at RW2
                  go_upto_region 9 with fail
                  obtain ⟨Wb, hWb⟩ : ∃ Wb, wr.alloc (.cells #[.int .i64 ok2, .string os2, .int .i64 ov2, .slice la2 ol2.length lc2, .bool oh2, .bool on2] 49) = Wb := ⟨_, rfl⟩
                  obtain ⟨zb, hzb⟩ : ∃ zb, wr.heap.size = zb := ⟨_, rfl⟩
                  have k0 : Wb.cell? ⟨zb, 0, none⟩ = some (.int .i64 ok2) := by rw [← hWb, ← hzb]; simp
                  have k1 : Wb.cell? ⟨zb, 1, none⟩ = some (.string os2) := by rw [← hWb, ← hzb]; simp
                  have k2 : Wb.cell? ⟨zb, 2, none⟩ = some (.int .i64 ov2) := by rw [← hWb, ← hzb]; simp
                  have k3 : Wb.cell? ⟨zb, 3, none⟩ = some (.slice la2 ol2.length lc2) := by rw [← hWb, ← hzb]; simp
                  have k4 : Wb.cell? ⟨zb, 4, none⟩ = some (.bool oh2) := by rw [← hWb, ← hzb]; simp
                  have k5 : Wb.cell? ⟨zb, 5, none⟩ = some (.bool on2) := by rw [← hWb, ← hzb]; simp
                  have hzl : zb < Wb.heap.size := by rw [← hWb, ← hzb, alloc_size]; omega
                  have BB : Hid (Below w2.heap.size w2 Wb) := by rw [← hWb]; exact BJ.out.trans ((below_box wr _).mono BJ.out.size)
                  rw [hWb, hzb]
                  have m1 := (BB.out.cell (p := ⟨ob, oo + n * 6 + 1, none⟩) hob2).trans z1
                  have mp := (BB.out.cell (p := ⟨xb, 1, none⟩) hx2).trans zp
                  have hobW : ob < Wb.heap.size := Nat.lt_of_lt_of_le hob2 BB.out.size
                  have hxW : xb < Wb.heap.size := Nat.lt_of_lt_of_le hx2 BB.out.size
                  clear hWb hzb g0 g1 g2 g3 g4 g5 BJ BJ2
                  clear RW2
                  cases hw2 : isW ok2 with
                  | false =>
                    have WG := hid (fun W => write_g ok2 os2 ov2 (.slice la2 ol2.length lc2) oh2 on2 W false hw2)
                    have N3 := hid (NX.out (fun c => by rw [hw2] at c; exact absurd c.1 (by decide)))
                    clear hw2 HB3 NX
                    have v0 := gcell k0
                    have v1 := gcell k1
                    have v2 := gcell k2
                    have v3 := gcell k3
                    have v4 := gcell k4
                    have v5 := gcell k5
                    have v6 := gcell m1
                    have v7 := gcell mp
                    have mixed := Try.mixed
                    refine wp_region_quiet_grown (by assumption) (by kernel_rfl) ?_
                    repeat (go_big_quiet_step ((go_at_call 63; exact Calls.grown_of (WG.out _))))
                    refine wpQuiet_nil ?_
                    intro w9 hw9
                    obtain ⟨⟨nq9, osq⟩, hw8⟩ := hw9
                    subst hw8
                    have B5 : Hid (Below w2.heap.size w2 (grow (Wb.drewN nq9) osq)) := BB.out.trans ((below_grow Wb nq9 osq).mono BB.out.size)
                    go_wp2_with fail
                    go_roundg (R - (j + 1))
                    · exact ⟨j + 1, by omega, by omega, by go_num, B5.out, N3.out⟩
                    · omega
                  | true =>
                    have WG := hid (fun W => write_g ok2 os2 ov2 (.slice la2 ol2.length lc2) oh2 on2 W true hw2)
                    by_cases hks : os2 = KY
                    · have hkb : (os2.toList == KY.toList) = true := by rw [hks]; simp
                      have HN : Hid (¬ finL l (tn : Int) (n : Int)) := fun c => HB3.out ⟨hw2, hks⟩ (FD2.out.1 c)
                      clear hw2 HB3 NX hks
                      have v0 := gcell k0
                      have v1 := gcell k1
                      have v2 := gcell k2
                      have v3 := gcell k3
                      have v4 := gcell k4
                      have v5 := gcell k5
                      have v6 := gcell m1
                      have v7 := gcell mp
                      have mixed := Try.mixed
                      refine wp_region_quiet_grown (by assumption) (by kernel_rfl) ?_
                      repeat (go_big_quiet_step ((go_at_call 63; exact Calls.grown_of (WG.out _))))
                      refine wpQuiet_nil ?_
                      intro w9 hw9
                      obtain ⟨⟨nq9, osq⟩, hw8⟩ := hw9
                      subst hw8
                      have B5 : Hid (Below w2.heap.size w2 (grow (Wb.drewN nq9) osq)) := BB.out.trans ((below_grow Wb nq9 osq).mono BB.out.size)
                      go_wp2_with fail
                      have B6 : Hid (Below w.heap.size w (grow (Wb.drewN nq9) osq)) := B2.out.trans (B5.out.mono B2.out.size)
                      go_ret
                      exact ⟨false, rfl, ⟨fun c => absurd c (by decide), fun c => absurd c HN.out⟩, B6.out⟩
                    · have hkb : (os2.toList == KY.toList) = false := by
                        cases hc : (os2.toList == KY.toList) with
                        | false => rfl
                        | true => exact absurd (cond_ws ▸ hc) hks
                      have N3 := hid (NX.out (fun c => hks c.2))
                      clear hw2 HB3 NX
                      have v0 := gcell k0
                      have v1 := gcell k1
                      have v2 := gcell k2
                      have v3 := gcell k3
                      have v4 := gcell k4
                      have v5 := gcell k5
                      have v6 := gcell m1
                      have v7 := gcell mp
                      have mixed := Try.mixed
                      refine wp_region_quiet_grown (by assumption) (by kernel_rfl) ?_
                      repeat (go_big_quiet_step ((go_at_call 63; exact Calls.grown_of (WG.out _))))
                      refine wpQuiet_nil ?_
                      intro w9 hw9
                      obtain ⟨⟨nq9, osq⟩, hw8⟩ := hw9
                      subst hw8
                      have B5 : Hid (Below w2.heap.size w2 (grow (Wb.drewN nq9) osq)) := BB.out.trans ((below_grow Wb nq9 osq).mono BB.out.size)
                      go_wp2_with fail
                      go_roundg (R - (j + 1))
                      · exact ⟨j + 1, by omega, by omega, by go_num, B5.out, N3.out⟩
                      · omega
                · have FIN : Hid (finL l (tn : Int) (n : Int)) := FD2.out.2 (HFT2.out (fun m a b => NJ.out m a (by omega)))
                  clear NJ FD2 HFT2 HBD
                  go_wp2_with fail
                  go_ret
                  exact ⟨true, rfl, ⟨fun _ => FIN.out, fun _ => rfl⟩, BJ2.out⟩
        · have hig : (T.length : Int) ≤ i := by omega
          have hid' : decide ((T.length : Int) ≤ i) = true := by simpa using hig
          have HF : Hid (¬ finL l (tn : Int) i) := fun c => by have := (FD.out.1 c).2.1; omega
          go_quiet (fail)
          go_wp2_with fail
          go_ret
          exact ⟨false, rfl, ⟨fun c => absurd c (by decide), fun c => absurd c HF.out⟩, (by first | exact (BQ _).out | exact below_drewN2 BW.out _ _)⟩
    · have htg : (l.length : Int) ≤ t := by omega
      have htd : decide ((l.length : Int) ≤ t) = true := by simpa using htg
      have HF : Hid (¬ finL l t i) := fun c => by have := c.2.1; omega
      go_quiet (fail)
      go_wp2_with fail
      go_ret
      exact ⟨false, rfl, ⟨fun c => absurd c (by decide), fun c => absurd c HF.out⟩, (by first | exact (BQ _).out | exact below_drewN2 BW.out _ _)⟩
end Go.Proofs.Ytnfbcmnlloipiaa
