/-
  The document's anomalies of a list, where something is told.
  The document's trace of a list.
  The document's reads of a list, with the blocks in which they lie.
-/
import Derived.Test.YtnfbcmnlloipiaaK17
import Derived.Test.YtnfbcmnlloipiaaK14
namespace Go.Proofs.Ytnfbcmnlloipiaa
set_option linter.unusedVariables false
set_option linter.unusedSimpArgs false
open Go.RowKit Go.Lib Go.Maps Go.Sort
open Tx (MTxn info_parts RowsIn.cells RowCells TxnRow TxnsIn)

set_option maxHeartbeats 16000000 in
set_option maxRecDepth 100000 in
theorem ranom_yes (w : World) (v : Value) (l : List MTxn) (s : ByteArray) (h : TxnsIn Any w v l) (hG : Good l) (hT : tellN l s) : Calls Try.prog 16 #[v, .string s] w fun e w' => ∃ v', e = .returned v' ∧ w'.ownsRow w.heap.size 85 9 v' (anoN l s).length (ansC (anoN l s)) ∧ Below w.heap.size w w' := by
  obtain ⟨i0, hi0, hz0, hz1, hz2⟩ := info_parts Try.infoAn
  have HI0 := hid hi0
  have HZ0 := hid hz0
  have HZ1 := hid hz1
  have HZ2 := hid hz2
  have KI : Hid (Calls Try.prog 35 #[v, .string s] w fun e w' => e = .returned (.int .i64 1) ∧ Below w.heap.size w w') := by
    have q := rkind_is w v l s h hG.len hG.ten
    rw [hT.1] at q
    exact q
  have UN : Hid (∀ W, Below w.heap.size w W → Calls Try.prog 36 #[v] W fun e w' => e = .returned (.bool true) ∧ Below W.heap.size W w') := fun W hb => (runiq_is W v l (h.below hb) hG.len hG.ten).mono fun e w' q => by
    obtain ⟨u, rfl, h2, h3⟩ := q
    rw [h2.2 hT.2]
    exact ⟨rfl, h3⟩
  have RD : Hid (∀ W, Below w.heap.size w W → Calls Try.prog 38 #[v, .string s] W fun e w' => ∃ v' R, e = .returned v' ∧ w'.ownsRow W.heap.size 87 3 v' R.length (rdC R) ∧ RdsD Any W R (rdsN l s (notes l l.length)) ∧ Below W.heap.size W w') := fun W hb => reads_is W v l s (h.below hb) hG
  have LEN : Hid (∀ r ∈ rdsN l s (notes l l.length), r.2.2.length ≤ (longD (rdsN l s (notes l l.length))).2.2.length ∧ r.2.2.length ≤ 100000) := fun r hr => ⟨by rw [(longD_is _).1]; exact long_max hr, (hG.rop hr).2⟩
  have TSL : Hid ((longD (rdsN l s (notes l l.length))).2.2.length ≤ 100000) := by
    show _ ≤ _
    rw [(longD_is _).1]
    exact hG.trace.2
  have hrl := hG.rlen (s := s)
  have ANO := hid (ano_same l s)
  have KD : Hid (knwD l s = ⟨srcN l s (notes l l.length), (longD (rdsN l s (notes l l.length))).1, (longD (rdsN l s (notes l l.length))).2.2⟩) := rfl
  have ONE : Hid (∀ (ri rj : Nat) (la : Option Addr) (lc : Nat) (xs : List Int) (ti tj : Nat) (ta : Option Addr) (tc : Nat) (ts : List Int) (w2 : World), Below w.heap.size w w2 → IntsIn Any w2 (.slice la xs.length lc) xs → xs.length ≤ 100000 → IntsIn Any w2 (.slice ta ts.length tc) ts → ts.length ≤ 100000 → xs.length ≤ ts.length → ∀ i, i < 5 → ∀ W, Below w2.heap.size w2 W → Calls Try.prog 43 #[v, .string s, .int .i64 (kindK i), .agg #[.int .i64 ri, .int .i64 rj, .slice la xs.length lc], .agg #[.int .i64 ti, .int .i64 tj, .slice ta ts.length tc]] W fun e w' => OneP s ri rj (findM ⟨srcN l s (notes l l.length), ti, ts⟩ ri rj xs i) e ∧ Below W.heap.size W w') := fun ri rj la lc xs ti tj ta tc ts w2 hb2 h1 h2 h3 h4 h5 i hi W hb => one_is W v l s ri rj la lc xs ti tj ta tc ts (h.below (hb2.trans (hb.mono hb2.size))) hG hT.2 (h1.below hb) h2 (h3.below hb) h4 h5 i hi
  have ORD : Hid (∀ (ti tj : Nat) (ta : Option Addr) (tc : Nat) (ts : List Int) (w2 : World), Below w.heap.size w w2 → IntsIn Any w2 (.slice ta ts.length tc) ts → ts.length ≤ 100000 → ∀ W, Below w2.heap.size w2 W → Calls Try.prog 44 #[v, .string s, .agg #[.int .i64 ti, .int .i64 tj, .slice ta ts.length tc]] W fun e w' => ∃ v', e = .returned v' ∧ w'.ownsRow (W.heap.size + 1) 85 9 v' (disK (srcN l s (notes l l.length)) s ts ts.length).length (ansC (disK (srcN l s (notes l l.length)) s ts ts.length)) ∧ Below W.heap.size W w') := fun ti tj ta tc ts w2 hb2 h3 h4 W hb => order_is W v l s ti tj ta tc ts (h.below (hb2.trans (hb.mono hb2.size))) hG hT.2 (h3.below hb) h4
  obtain ⟨a1, c1, rfl, _⟩ := RowsIn.cells h (by omega)
  clear h hG hT hi0 hz0 hz1 hz2
  generalize rdsN l s (notes l l.length) = RX at *
  generalize srcN l s (notes l l.length) = F at *
  obtain ⟨TR, hTR⟩ : ∃ TR, longD RX = TR := ⟨_, rfl⟩
  have LO : Hid (∀ B v R w0 W, W.ownsRow B 87 3 v R.length (rdC R) → RdsD Any w0 R RX → Calls Try.prog 37 #[v] W fun e w' => ∃ ta tc, e = .returned (.agg #[.int .i64 TR.1, .int .i64 TR.2.1, .slice ta TR.2.2.length tc]) ∧ IntsIn Any w0 (.slice ta TR.2.2.length tc) TR.2.2 ∧ Below W.heap.size W w') := fun B v R w0 W ho hr => (longest_is B v R RX w0 W ho hr (by rw [hr.len]; omega)).mono fun e w' q => by
    rw [hTR] at q
    obtain ⟨ta, tc, q1, q2, _, q4⟩ := q
    exact ⟨ta, tc, q1, q2, q4⟩
  rw [hTR] at LEN TSL KD
  obtain ⟨ti, tj, ts⟩ := TR
  simp only at LO LEN TSL KD
  clear hTR
  go_enter Try.func16, Try.ntmps16
  go_upto_region 8 with (first
    | (go_at_call 35; refine KI.out.mono ?_; rintro e w1 ⟨rfl, b1⟩; have B1 := hid b1; clear b1)
    | (go_at_call 36; refine (UN.out _ B1.out).mono ?_; rintro e w2 ⟨rfl, b2⟩; have B2 := hid (B1.out.trans (b2.mono B1.out.size)); clear b2)
    | (go_at_call 38; refine (RD.out _ B2.out).mono ?_; rintro e w3 ⟨v3, R, rfl, o3, r3, b3⟩; have O3 := hid o3; have R3 := hid r3; have B3 := hid b3; obtain ⟨ra, rc, hrv⟩ := own_slice o3; subst hrv; clear o3 r3 b3)
    | (go_at_call 37; refine (LO.out _ _ _ _ _ O3.out R3.out).mono ?_; rintro e w4 ⟨ta, tc, rfl, i4, b4⟩; have I4 := hid i4; have B4 := hid b4; clear i4 b4))
  have s5 : (w4.alloc (.cells #[.int .i64 ti, .int .i64 tj, .slice ta ts.length tc] 87)).heap.size = w4.heap.size + 1 := alloc_size _ _
  have BX : Hid (Below w4.heap.size w4 ((w4.alloc (.cells #[.int .i64 ti, .int .i64 tj, .slice ta ts.length tc] 87)).alloc (.cells #[.int .i64 3, .int .i64 2, .int .i64 5, .int .i64 6, .int .i64 4] 3))) := (below_box w4 _).alloc (by rw [s5]; omega) _
  have T6 : Hid (((w4.alloc (.cells #[.int .i64 ti, .int .i64 tj, .slice ta ts.length tc] 87)).alloc (.cells #[.int .i64 3, .int .i64 2, .int .i64 5, .int .i64 6, .int .i64 4] 3)).heap[w4.heap.size]? = some (.cells #[.int .i64 ti, .int .i64 tj, .slice ta ts.length tc] 87)) := by
    show _ = _
    rw [alloc_at, if_neg (by rw [s5]; omega)]
    exact heap_alloc_new w4 _
  have KB : Hid (((w4.alloc (.cells #[.int .i64 ti, .int .i64 tj, .slice ta ts.length tc] 87)).alloc (.cells #[.int .i64 3, .int .i64 2, .int .i64 5, .int .i64 6, .int .i64 4] 3)).heap[w4.heap.size + 1]? = some (.cells #[.int .i64 3, .int .i64 2, .int .i64 5, .int .i64 6, .int .i64 4] 3)) := by
    show _ = _
    rw [alloc_at, if_pos s5.symm]
  clear s5
  generalize (w4.alloc (.cells #[.int .i64 ti, .int .i64 tj, .slice ta ts.length tc] 87)).alloc (.cells #[.int .i64 3, .int .i64 2, .int .i64 5, .int .i64 6, .int .i64 4] 3) = W0 at *
  have B30 : Hid (Below w3.heap.size w3 W0) := B4.out.trans (BX.out.mono B4.out.size)
  have B20 : Hid (Below w2.heap.size w2 W0) := B3.out.trans (B30.out.mono B3.out.size)
  have B00 : Hid (Below w.heap.size w W0) := B2.out.trans (B20.out.mono B2.out.size)
  have OR0 : Hid (W0.ownsRow w2.heap.size 87 3 (.slice ra R.length rc) R.length (rdC R)) := own_same O3.out (fun g hg => B30.out.block g (own_block O3.out hg).2.1)
  have HRR := hid R3.out.len
  have hRn : R.length ≤ 10000 := by rw [HRR.out]; exact hrl
  have hRi : (R.length : Int) ≤ 10000 := by omega
  clear KI UN RD LO O3 B1 B3 B4 BX B30
  generalize w4.heap.size + 1 = kb at *
  generalize w4.heap.size = tb at *
  obtain ⟨K, hK⟩ : ∃ K : Knw, ⟨F, ti, ts⟩ = K := ⟨_, rfl⟩
  have HK := hid hK
  clear hK
  go_loopg [7, 8, 10, 12, 13, 14, 31] 5 (fun g out b _ _ _ _ i wr => ∃ k : Nat, k ≤ 5 ∧ 5 - k ≤ g ∧ i = .int .i64 k ∧ b = .bool (harmB (uptoA K s RX k 0)) ∧ Aside (Below W0.heap.size W0 wr) ∧ Aside (wr.ownsRow W0.heap.size 85 9 out (uptoA K s RX k 0).length (ansC (uptoA K s RX k 0))))
  case atStart => exact ⟨0, by omega, by omega, rfl, (by rw [uptoA_zero]; rfl), Below.refl _ _, (show Aside _ from by rw [uptoA_zero]; exact World.ownsRow_nil _ _ _ _)⟩
  case round =>
    obtain ⟨k, hk, hg, rfl, rfl, BW, OW⟩ := hrel
    by_cases hlt : k < 5
    · have hlti : (k : Int) < 5 := by omega
      have kv : wr.cell? ⟨kb, k, none⟩ = some (.int .i64 (kindK k)) := by
        have hc := (BW.out.cell (p := ⟨kb, k, none⟩) (blt KB.out)).trans (Lib.cell_of_heap KB.out k)
        have hk5 : k = 0 ∨ k = 1 ∨ k = 2 ∨ k = 3 ∨ k = 4 := by omega
        rcases hk5 with rfl | rfl | rfl | rfl | rfl <;> exact hc
      go_wp2_with fail
      clear kv
      go_loopg [7, 8, 12, 13, 14, 37] R.length (fun g out b _ _ _ i wi => ∃ q : Nat, q ≤ R.length ∧ R.length - q ≤ g ∧ i = .int .i64 q ∧ b = .bool (harmB (uptoA K s RX k q)) ∧ Aside (Below W0.heap.size W0 wi) ∧ Aside (wi.ownsRow W0.heap.size 85 9 out (uptoA K s RX k q).length (ansC (uptoA K s RX k q))))
      case atStart => exact ⟨0, by omega, by omega, rfl, rfl, BW.out, OW.out⟩
      case round =>
        obtain ⟨q, hq, hgq, rfl, rfl, BJ, OJ⟩ := hrel
        by_cases hq1 : q < R.length
        · have hq1i : (q : Int) < R.length := by omega
          have hqx : q < RX.length := by rw [← HRR.out]; exact hq1
          obtain ⟨g, c', hv⟩ := own_some OR0.out (by omega)
          cases hv
          have hgl : g < W0.heap.size := (own_block OR0.out rfl).2.1
          obtain ⟨la, lc, hRq, hin, hwf⟩ := R3.out.at' q hq1
          have HN : Hid (uptoA K s RX k (q + 1) = uptoA K s RX k q ++ oneA K s k (RX.getD q default)) := uptoA_next K s RX k q hqx
          have hlen := LEN.out (RX.getD q default) (by simp [List.getD, List.getElem?_eq_getElem hqx])
          have ce : ∀ i u, i < 3 → (rdVs (R.getD q default))[i]? = some u → wr.cell? ⟨g, q * 3 + i, none⟩ = some u := fun i u hi hu => (BJ.out.cell (p := ⟨g, q * 3 + i, none⟩) hgl).trans ((OR0.out.cellAt (q * 3 + i) (by omega)).trans ((rdC_at R q i hq1 hi).trans hu))
          rw [hRq] at ce
          obtain ⟨r, hX⟩ : ∃ r, RX.getD q default = r := ⟨_, rfl⟩
          rw [hX] at ce hin HN hlen
          obtain ⟨ri, rj, xs⟩ := r
          simp only at ce hin hlen
          have x0 := ce 0 _ (by omega) rfl
          have x1 := ce 1 _ (by omega) rfl
          have x2 := ce 2 _ (by omega) rfl
          simp only [Nat.add_zero] at x0 x1 x2
          have B2J : Hid (Below w2.heap.size w2 wr) := B20.out.trans (BJ.out.mono B20.out.size)
          have FI : Hid (∀ o, Calls Try.prog 43 #[.slice a1 l.length c1, .string s, .int .i64 (kindK k), .agg #[.int .i64 ri, .int .i64 rj, .slice la xs.length lc], .agg #[.int .i64 ti, .int .i64 tj, .slice ta ts.length tc]] (wr.alloc o) fun e w' => OneP s ri rj (findM K ri rj xs k) e ∧ Below (wr.alloc o).heap.size (wr.alloc o) w') := fun o => by
            have hh := ONE.out ri rj la lc xs ti tj ta tc ts w2 B2.out hin hlen.2 I4.out TSL.out hlen.1 k hlt (wr.alloc o) (B2J.out.trans ((below_box wr o).mono B2J.out.size))
            rw [HK.out] at hh
            exact hh
          have FK := hid (find_kind K ri rj xs k hlt)
          have t0 : ∀ o, (wr.alloc o).cell? ⟨tb, 0, none⟩ = some (.int .i64 ti) := fun o => Lib.cell?_alloc_some _ ((BJ.out.cell (p := ⟨tb, 0, none⟩) (blt T6.out)).trans (Lib.cell_of_heap T6.out 0))
          have t1 : ∀ o, (wr.alloc o).cell? ⟨tb, 1, none⟩ = some (.int .i64 tj) := fun o => Lib.cell?_alloc_some _ ((BJ.out.cell (p := ⟨tb, 1, none⟩) (blt T6.out)).trans (Lib.cell_of_heap T6.out 1))
          have t2 : ∀ o, (wr.alloc o).cell? ⟨tb, 2, none⟩ = some (.slice ta ts.length tc) := fun o => Lib.cell?_alloc_some _ ((BJ.out.cell (p := ⟨tb, 2, none⟩) (blt T6.out)).trans (Lib.cell_of_heap T6.out 2))
          have hwW := BJ.out.size
          have hul := uptoA_len K s RX k q (by omega)
          have hul2 : (uptoA K s RX k q).length ≤ 600000 := by
            have : k * RX.length ≤ 4 * 100000 := Nat.mul_le_mul (by omega) (by omega)
            omega
          obtain ⟨U, hU⟩ : ∃ U, uptoA K s RX k q = U := ⟨_, rfl⟩
          obtain ⟨U1, hU1⟩ : ∃ U1, uptoA K s RX k (q + 1) = U1 := ⟨_, rfl⟩
          rw [hU] at HN OJ hul2
          rw [hU1] at HN
          have HU1 := hid hU1
          obtain ⟨va, vc, hva⟩ := own_slice OJ.out
          subst hva
          rw [hU]
          generalize kindK k = kd at *
          clear ce hRq hin hwf hX hul hU hU1 hlen
          cases hf : findM K ri rj xs k with
          | none =>
            have HO : Hid (U1 = U) := by show _ = _; rw [HN.out]; simp [oneA, hf]
            rw [hf] at FI
            clear hf HN FK
            go_upto_region 14 with (go_at_call 43; refine (FI.out _).mono ?_; rintro e w5 ⟨⟨d0, d1, d2, d3, d4, d5, rfl, _⟩, b5⟩; have N1 : Hid (Below wr.heap.size wr w5) := (box_later b5).2.2.2; clear b5)
            go_wp2_with fail
            go_roundg (R.length - (q + 1))
            case measure => omega
            case rel =>
              have BN := BJ.out.trans (N1.out.mono BJ.out.size)
              refine ⟨q + 1, by omega, by omega, by go_num, (by rw [HU1.out, HO.out]), BN.trans ((below_box w5 _).mono BN.size), (show Aside _ from ?_)⟩
              rw [HU1.out, HO.out]
              refine own_same OJ.out (fun g hg => ?_)
              have := (own_block OJ.out hg).2.1
              exact ((below_box w5 _).block g (Nat.lt_of_lt_of_le this N1.out.size)).trans (N1.out.block g this)
          | some a =>
            have hak := FK.out a hf
            obtain ⟨kd2, oth, x⟩ := a
            simp only at hak
            subst kd2
            have HO : Hid (U1 = U ++ [(kd, (ri : Int), (rj : Int), oth, s, x)]) := by show _ = _; rw [HN.out]; simp [oneA, hf]
            rw [hf] at FI
            clear hf HN FK
            go_upto_region 15 with (go_at_call 43; refine (FI.out _).mono ?_; rintro e w5 ⟨⟨d0, d1, d2, d3, d4, d5, rfl, hd⟩, b5⟩; obtain ⟨e0, e1, e2, e3, e4, e5⟩ := hd _ rfl; replace e0 : d0 = kd := e0; replace e3 : d3 = oth := e3; replace e5 : d5 = x := e5; subst d0 d1 d2 d3 d4 d5; have N1 : Hid (Below wr.heap.size wr w5) := (box_later b5).2.2.2; clear b5 hd)
            have N5 : Hid (Below wr.heap.size wr (w5.alloc (.cells #[.int .i64 kd, .int .i64 ri, .int .i64 rj, .int .i64 oth, .string s, .int .i64 x, .slice none 0 0, .bool false, .int .i64 0] 85))) := N1.out.trans ((below_box w5 _).mono N1.out.size)
            have PB := hid (heap_alloc_new w5 (.cells #[.int .i64 kd, .int .i64 ri, .int .i64 rj, .int .i64 oth, .string s, .int .i64 x, .slice none 0 0, .bool false, .int .i64 0] 85))
            clear N1 x0 x1 x2 t0 t1 t2 FI
            generalize w5.alloc (.cells #[.int .i64 kd, .int .i64 ri, .int .i64 rj, .int .i64 oth, .string s, .int .i64 x, .slice none 0 0, .bool false, .int .i64 0] 85) = W5 at *
            generalize w5.heap.size = pb at *
            have p0 : W5.cell? ⟨pb, 0, none⟩ = some (.int .i64 kd) := Lib.cell_of_heap PB.out 0
            have p1 : W5.cell? ⟨pb, 1, none⟩ = some (.int .i64 ri) := Lib.cell_of_heap PB.out 1
            have p2 : W5.cell? ⟨pb, 2, none⟩ = some (.int .i64 rj) := Lib.cell_of_heap PB.out 2
            have p3 : W5.cell? ⟨pb, 3, none⟩ = some (.int .i64 oth) := Lib.cell_of_heap PB.out 3
            have p4 : W5.cell? ⟨pb, 4, none⟩ = some (.string s) := Lib.cell_of_heap PB.out 4
            have p5 : W5.cell? ⟨pb, 5, none⟩ = some (.int .i64 x) := Lib.cell_of_heap PB.out 5
            have p6 : W5.cell? ⟨pb, 6, none⟩ = some (.slice none 0 0) := Lib.cell_of_heap PB.out 6
            have p7 : W5.cell? ⟨pb, 7, none⟩ = some (.bool false) := Lib.cell_of_heap PB.out 7
            have p8 : W5.cell? ⟨pb, 8, none⟩ = some (.int .i64 0) := Lib.cell_of_heap PB.out 8
            have SZ : Hid ((W5.alloc (.cells #[.int .i64 kd, .int .i64 ri, .int .i64 rj, .int .i64 oth, .string s, .int .i64 x, .slice none 0 0, .bool false, .int .i64 0] 85)).heap.size = W5.heap.size + 1) := alloc_size _ _
            have B9 : Hid (∀ b, b < wr.heap.size → (W5.alloc (.cells #[.int .i64 kd, .int .i64 ri, .int .i64 rj, .int .i64 oth, .string s, .int .i64 x, .slice none 0 0, .bool false, .int .i64 0] 85)).heap[b]? = wr.heap[b]?) := fun b hb => by rw [alloc_at, if_neg (by have := N5.out.size; omega)]; exact N5.out.block b hb
            have OX : Hid ((W5.alloc (.cells #[.int .i64 kd, .int .i64 ri, .int .i64 rj, .int .i64 oth, .string s, .int .i64 x, .slice none 0 0, .bool false, .int .i64 0] 85)).ownsRow W0.heap.size 85 9 (.slice va U.length vc) U.length (ansC U)) := own_same OJ.out (fun g hg => B9.out g (own_block OJ.out hg).2.1)
            have NEW : Hid (∀ j u, ([.int .i64 kd, .int .i64 (ri : Int), .int .i64 (rj : Int), .int .i64 oth, .string s, .int .i64 x, .slice none 0 0, .bool false, .int .i64 (0 : Int)] : List Value)[j]? = some u → (W5.alloc (.cells #[.int .i64 kd, .int .i64 ri, .int .i64 rj, .int .i64 oth, .string s, .int .i64 x, .slice none 0 0, .bool false, .int .i64 0] 85)).cell? ((⟨W5.heap.size, 0, none⟩ : Addr).add j) = some u) := World.news_of_block (cs := #[.int .i64 kd, .int .i64 ri, .int .i64 rj, .int .i64 oth, .string s, .int .i64 x, .slice none 0 0, .bool false, .int .i64 0]) (t := 85) (fr := (0, 0)) (heap_alloc_new W5 _)
            have ONC : Hid (∀ u ∈ ([.int .i64 kd, .int .i64 (ri : Int), .int .i64 (rj : Int), .int .i64 oth, .string s, .int .i64 x, .slice none 0 0, .bool false, .int .i64 (0 : Int)] : List Value), u.oneCell' = true) := by
              intro u hu
              simp only [List.mem_cons, List.not_mem_nil, or_false] at hu
              rcases hu with rfl | rfl | rfl | rfl | rfl | rfl | rfl | rfl | rfl <;> rfl
            have hsz5 := N5.out.size
            have HHS : Hid (harmB U1 = (harmB U && (kd == 6))) := by show _ = _; rw [HO.out, harm_snoc]
            cases hsb : harmB U with
            | false =>
              rw [hsb] at HHS
              clear hsb
              go_wp2_with (at_builtin; refine wpList_append_lies _ rfl _ _ 33 rfl W0.heap.size 85 i0 _ 9 96 Try.underlying33 HI0.out HZ0.out HZ1.out HZ2.out rfl (by decide) (.slice va U.length vc) U.length (ansC U) rfl OX.out ⟨W5.heap.size, 0, none⟩ 1 1 [.int .i64 kd, .int .i64 (ri : Int), .int .i64 (rj : Int), .int .i64 oth, .string s, .int .i64 x, .slice none 0 0, .bool false, .int .i64 (0 : Int)] rfl rfl NEW.out ONC.out (by decide) (by unfold maxLen; omega) (by omega) (by rw [SZ.out]; omega) (W5.heap.size + 1) SZ.out ?_; intro g8 cap8 w8 hown8 hgrow8 hat8 hglt8; have O8 := hid hown8; have G8 := hid hgrow8; clear hown8 hgrow8 hat8 hglt8)
              go_roundg (R.length - (q + 1))
              case measure => omega
              case rel =>
                refine ⟨q + 1, by omega, by omega, by go_num, (by rw [HU1.out, HHS.out]; rfl), (show Aside _ from ⟨G8.out.os.trans (N5.out.os.trans BJ.out.os), G8.out.tape.trans (N5.out.tape.trans BJ.out.tape), G8.out.output.trans (N5.out.output.trans BJ.out.output), Nat.le_trans (by rw [SZ.out]; omega) G8.out.size, fun b hb => (G8.out.block b (by rw [SZ.out]; omega) (fun e => by have := (own_block OJ.out e.symm).1; omega)).trans ((B9.out b (by omega)).trans (BJ.out.block b hb))⟩), (show Aside _ from ?_)⟩
                rw [HU1.out, HO.out, List.length_append, ansC_snoc]
                exact O8.out
            | true =>
              rw [hsb] at HHS
              clear hsb
              go_wp2_with (at_builtin; refine wpList_append_lies _ rfl _ _ 33 rfl W0.heap.size 85 i0 _ 9 96 Try.underlying33 HI0.out HZ0.out HZ1.out HZ2.out rfl (by decide) (.slice va U.length vc) U.length (ansC U) rfl OX.out ⟨W5.heap.size, 0, none⟩ 1 1 [.int .i64 kd, .int .i64 (ri : Int), .int .i64 (rj : Int), .int .i64 oth, .string s, .int .i64 x, .slice none 0 0, .bool false, .int .i64 (0 : Int)] rfl rfl NEW.out ONC.out (by decide) (by unfold maxLen; omega) (by omega) (by rw [SZ.out]; omega) (W5.heap.size + 1) SZ.out ?_; intro g8 cap8 w8 hown8 hgrow8 hat8 hglt8; have O8 := hid hown8; have G8 := hid hgrow8; clear hown8 hgrow8 hat8 hglt8)
              go_roundg (R.length - (q + 1))
              case measure => omega
              case rel =>
                refine ⟨q + 1, by omega, by omega, by go_num, (by rw [HU1.out, HHS.out]; rfl), (show Aside _ from ⟨G8.out.os.trans (N5.out.os.trans BJ.out.os), G8.out.tape.trans (N5.out.tape.trans BJ.out.tape), G8.out.output.trans (N5.out.output.trans BJ.out.output), Nat.le_trans (by rw [SZ.out]; omega) G8.out.size, fun b hb => (G8.out.block b (by rw [SZ.out]; omega) (fun e => by have := (own_block OJ.out e.symm).1; omega)).trans ((B9.out b (by omega)).trans (BJ.out.block b hb))⟩), (show Aside _ from ?_)⟩
                rw [HU1.out, HO.out, List.length_append, ansC_snoc]
                exact O8.out
        · have hqe : q = RX.length := by rw [← HRR.out]; omega
          have HQE := hid hqe
          clear hqe
          have hq1i : ¬ (q : Int) < R.length := by omega
          go_wp2_with fail
          go_roundg (5 - (k + 1))
          case measure => omega
          case rel => exact ⟨k + 1, by omega, by omega, by go_num, (by rw [← uptoA_row, ← HQE.out]), BJ.out, (show Aside _ from by rw [← uptoA_row, ← HQE.out]; exact OJ.out)⟩
    · have hlti : ¬ (k : Int) < 5 := by omega
      have hk5 : k = 5 := by omega
      subst hk5
      obtain ⟨A, hA⟩ : ∃ A, uptoA K s RX 5 0 = A := ⟨_, rfl⟩
      have hul : A.length ≤ 500000 := by
        have := uptoA_len K s RX 5 0 (by omega)
        rw [hA] at this
        omega
      have HAN : Hid (anoN l s = A ++ (if harmB A = true then disK F s ts ts.length else [])) := by
        show _ = _
        rw [← ANO.out, KD.out, HK.out]
        unfold anoM
        rw [hA]
        have e1 : K.f = F := by rw [← HK.out]
        have e2 : K.ts = ts := by rw [← HK.out]
        rw [e1, e2]
      rw [hA] at OW
      rw [hA]
      obtain ⟨va, vc, hva⟩ := own_slice OW.out
      subst hva
      obtain ⟨D, hD⟩ : ∃ D, disK F s ts ts.length = D := ⟨_, rfl⟩
      have hdl : D.length ≤ 100000 := by
        have := disK_len F s ts ts.length
        rw [hD] at this
        have := TSL.out
        omega
      have B2W : Hid (Below w2.heap.size w2 wr) := B20.out.trans (BW.out.mono B20.out.size)
      have DI : Hid (Calls Try.prog 44 #[.slice a1 l.length c1, .string s, .agg #[.int .i64 ti, .int .i64 tj, .slice ta ts.length tc]] wr fun e w' => ∃ v, e = .returned v ∧ w'.ownsRow (wr.heap.size + 1) 85 9 v D.length (ansC D) ∧ Below wr.heap.size wr w') := by
        have h := ORD.out ti tj ta tc ts w2 B2.out I4.out TSL.out wr B2W.out
        rw [hD] at h
        exact h
      rw [hD] at HAN
      have BR : Hid (Below w.heap.size w wr) := B00.out.trans (BW.out.mono B00.out.size)
      have hww := BW.out.size
      have hwz := B00.out.size
      have t0 : wr.cell? ⟨tb, 0, none⟩ = some (.int .i64 ti) := (BW.out.cell (p := ⟨tb, 0, none⟩) (blt T6.out)).trans (Lib.cell_of_heap T6.out 0)
      have t1 : wr.cell? ⟨tb, 1, none⟩ = some (.int .i64 tj) := (BW.out.cell (p := ⟨tb, 1, none⟩) (blt T6.out)).trans (Lib.cell_of_heap T6.out 1)
      have t2 : wr.cell? ⟨tb, 2, none⟩ = some (.slice ta ts.length tc) := (BW.out.cell (p := ⟨tb, 2, none⟩) (blt T6.out)).trans (Lib.cell_of_heap T6.out 2)
      clear hA hD
      cases hb : harmB A with
      | false =>
        rw [hb] at HAN
        clear hb
        go_wp2_with fail
        go_ret
        exact ⟨_, rfl, (by rw [HAN.out]; simp only [Bool.false_eq_true, if_false, List.append_nil]; exact own_base OW.out hwz), BR.out⟩
      | true =>
        rw [hb] at HAN
        clear hb
        by_cases hd0 : D.length = 0
        · have hd : D = [] := List.length_eq_zero_iff.1 hd0
          subst hd
          go_wp2_with (first
            | (go_at_call 44; refine DI.out.mono ?_; rintro e w8 ⟨v2, rfl, o2, b2⟩; have O2 := hid o2; have N2 := hid b2; have OX : Hid (w8.ownsRow W0.heap.size 85 9 (.slice va A.length vc) A.length (ansC A)) := own_same OW.out (fun g hg => N2.out.block g (own_block OW.out hg).2.1); clear o2 b2)
            | (at_builtin; refine Lib.wpList_append_run_sl _ rfl _ _ 33 rfl (.slice va A.length vc) _ rfl rfl (append_zero _ _ 33 _ 85 i0 9 Try.underlying33 HI0.out _ _ _ _ _ OX.out O2.out) ?_))
          go_ret
          exact ⟨_, rfl, (by rw [HAN.out]; simp only [if_true, List.append_nil]; exact own_base OX.out hwz), BR.out.trans (N2.out.mono BR.out.size)⟩
        · go_wp2_with (first
            | (go_at_call 44; refine DI.out.mono ?_; rintro e w8 ⟨v2, rfl, o2, b2⟩; obtain ⟨g2, c2, hv2⟩ : ∃ g2 c2, v2 = .slice (some ⟨g2, 0, none⟩) D.length c2 := own_some o2 hd0; subst hv2; have O2 := hid o2; have N2 := hid b2; have OX : Hid (w8.ownsRow W0.heap.size 85 9 (.slice va A.length vc) A.length (ansC A)) := own_same OW.out (fun g hg => N2.out.block g (own_block OW.out hg).2.1); have hw2 : W0.heap.size ≤ w8.heap.size := (by have := N2.out.size; omega); clear o2 b2)
            | (at_builtin; refine wpList_append_lies _ rfl _ _ 33 rfl W0.heap.size 85 i0 _ 9 96 Try.underlying33 HI0.out HZ0.out HZ1.out HZ2.out rfl (by decide) (.slice va A.length vc) A.length (ansC A) rfl OX.out ⟨g2, 0, none⟩ D.length c2 (ansC D) rfl (ansC_len D) (ans_news O2.out) (ansC_one D) (by omega) (by unfold maxLen; omega) (by omega) hw2 w8.heap.size rfl ?_; intro g9 cap9 w9 hown9 hgrow9 hat9 hglt9; have O9 := hid hown9; have G9 := hid hgrow9; clear hown9 hgrow9 hat9 hglt9))
          go_ret
          refine ⟨_, rfl, ?_, ?_⟩
          · rw [HAN.out]
            simp only [if_true]
            rw [List.length_append, ansC_append]
            exact own_base O9.out hwz
          · have B2x := BR.out.trans (N2.out.mono BR.out.size)
            exact ⟨G9.out.os.trans B2x.os, G9.out.tape.trans B2x.tape, G9.out.output.trans B2x.output, Nat.le_trans B2x.size G9.out.size, fun b hb => (G9.out.block b (by have := B2x.size; omega) (fun e => by have := (own_block OX.out e.symm).1; omega)).trans (B2x.block b hb)⟩
end Go.Proofs.Ytnfbcmnlloipiaa
namespace Go.Proofs.Ytnfbcmnlloipiaa
set_option linter.unusedVariables false
set_option linter.unusedSimpArgs false
open Go.RowKit Go.Lib Go.Maps Go.Sort
open Tx (MTxn info_parts RowsIn.cells RowCells TxnRow TxnsIn)

set_option maxHeartbeats 2000000 in
set_option maxRecDepth 100000 in
theorem rtrace_un (w : World) (v : Value) (l : List MTxn) (s : ByteArray) (h : TxnsIn Any w v l) (hG : Good l) (hn : ¬ tellN l s) : Calls Try.prog 13 #[v, .string s] w fun e w' => e = .returned (.tuple #[.slice none 0 0, .bool false]) ∧ Below w.heap.size w w' := by
  have KI := hid (rkind_is w v l s h hG.len hG.ten)
  have UN : Hid (∀ W, Below w.heap.size w W → Calls Try.prog 36 #[v] W fun e w' => ∃ u : Bool, e = .returned (.bool u) ∧ (u = true ↔ uniqN (notes l l.length)) ∧ Below W.heap.size W w') := fun W hb => runiq_is W v l (h.below hb) hG.len hG.ten
  obtain ⟨a1, c1, rfl, _⟩ := RowsIn.cells h (by omega)
  unfold tellN at hn
  clear h hG
  generalize notes l l.length = N at *
  by_cases hk : kindN N s = 1
  · have hu : ¬ uniqN N := fun c => hn ⟨hk, c⟩
    rw [hk] at KI
    have HU := hid hu
    clear hn hk hu
    go_enter Try.func13, Try.ntmps13
    go_wp2_with (first | (go_at_call 35; refine KI.out.mono ?_; rintro e w1 ⟨rfl, b1⟩; have B1 := hid b1; clear b1) | (go_at_call 36; refine (UN.out _ B1.out).mono ?_; rintro e w2 ⟨u, rfl, hu2, b2⟩; have e9 : u = false := (by cases u with | false => rfl | true => exact absurd (hu2.1 rfl) HU.out); subst e9; have B2 := hid (B1.out.trans (b2.mono B1.out.size)); clear b2 hu2))
    go_ret2
    exact ⟨rfl, B2.out⟩
  · have hkb : (kindN N s == (1 : Int)) = false := by simpa using hk
    generalize kindN N s = kk at *
    clear hn UN
    go_enter Try.func13, Try.ntmps13
    go_wp2_with (go_at_call 35; refine KI.out.mono ?_; rintro e w1 ⟨rfl, b1⟩; have B1 := hid b1; clear b1)
    go_ret2
    exact ⟨rfl, B1.out⟩
theorem harm_at {A : List MAn} (h : ∀ j, j < A.length → (A.getD j default).1 = 6) : harmB A = true := by
  unfold harmB
  rw [List.all_eq_true]
  intro a ha
  obtain ⟨j, hj, e⟩ := List.mem_iff_getElem.1 ha
  have := h j hj
  rw [show A.getD j default = a from by simp [List.getD, List.getElem?_eq_getElem hj, e]] at this
  rw [this]
  rfl
theorem harm_not {A : List MAn} {j : Nat} (hj : j < A.length) (h : (A.getD j default).1 ≠ 6) : harmB A = false := by
  cases hc : harmB A with
  | false => rfl
  | true =>
    unfold harmB at hc
    rw [List.all_eq_true] at hc
    have := hc (A.getD j default) (by simp [List.getD, List.getElem?_eq_getElem hj])
    exact absurd (by simpa using this) h
theorem Try.infoI3 : (Try.prog.info? 3).map (fun i => (i.zero, i.size, i.bytes)) = some (some (.int .i64 0), 1, 8) := by kernel_rfl
theorem append_zero2 {P : Program} {w : World} (base : Nat) (t ty e : TypeId) (i : TypeInfo) (size : Nat) (ht : P.underlying t = some (.slice e)) (hi : P.info? e = some i) (v : Value) (a : Option Addr) (c n : Nat) (xs : List Value) (hown : w.ownsRow base e size v n xs) : (Builtin.append_ #[t, t] ty #[v, .slice a 0 c]).run P w = .ok v w := by
  rcases hown.2 with ⟨rfl, rfl⟩ | ⟨g, cap, cur, rfl, _, _, hnc, _⟩
  · cases a <;> simp [Builtin.append_, run_underlying ht, sizeOf, typeInfo, hi, Builtin.lenOf, Builtin.firstCells, loadCells, loadCellsFrom]
  · cases a <;> simp [Builtin.append_, run_underlying ht, sizeOf, typeInfo, hi, Builtin.lenOf, Builtin.firstCells, hnc, storeCells, loadCells, loadCellsFrom]
theorem ints_some {w : World} {a : Option Addr} {c : Nat} {xs : List Int} (h : IntsIn Any w (.slice a xs.length c) xs) (h0 : ¬ xs.length = 0) : ∃ lb lo, a = some ⟨lb, lo, none⟩ ∧ ∀ W, Below w.heap.size w W → ∀ j, j < xs.length → W.cell? ⟨lb, lo + j, none⟩ = some (.int .i64 (xs.getD j default)) := by
  obtain ⟨ao, c', hv, _, hc⟩ := h
  cases hv
  obtain ⟨b, off, rfl, _, h3⟩ := hc (by omega)
  exact ⟨b, off, rfl, fun W hb j hj => (hb.cell (p := ⟨b, off + j, none⟩) (World.block_lt_of_cell? _ _ (h3 j hj))).trans (h3 j hj)⟩
theorem ints_news {w : World} {lb lo : Nat} {xs : List Int} (h : ∀ j, j < xs.length → w.cell? ⟨lb, lo + j, none⟩ = some (.int .i64 (xs.getD j default))) : ∀ j u, (xs.map (Value.int .i64))[j]? = some u → w.cell? ((⟨lb, lo, none⟩ : Addr).add j) = some u := fun j u hu => by
  have hj : j < xs.length := by simpa using (List.getElem?_eq_some_iff.1 hu).1
  rw [Addr.add_lit, h j hj, ← hu]
  simp [List.getD, List.getElem?_eq_getElem hj]
theorem ints_one (xs : List Int) : ∀ u ∈ xs.map (Value.int .i64), u.oneCell' = true := by
  intro u hu
  obtain ⟨x, _, rfl⟩ := List.mem_map.1 hu
  rfl
theorem ints_owned {w : World} {B g cap : Nat} {xs : List Int} (h : w.ownsRow B 3 1 (.slice (some ⟨g, 0, none⟩) xs.length cap) xs.length (xs.map (Value.int .i64))) (hl : xs.length ≤ 1000000) : IntsIn Any w (.slice (some ⟨g, 0, none⟩) xs.length cap) xs := by
  have hc : xs.length ≤ cap := by
    rcases h.2 with ⟨hv, _⟩ | ⟨g', cap', cur, hv, _, _, hn, _⟩
    · cases hv
    · cases hv
      exact hn
  refine ⟨_, _, rfl, ⟨by omega, hc⟩, fun h0 => ⟨g, 0, rfl, trivial, fun j hj => ?_⟩⟩
  rw [Nat.zero_add, h.cellAt j (by omega)]
  simp [List.getD, List.getElem?_eq_getElem hj]
set_option maxHeartbeats 8000000 in
set_option maxRecDepth 100000 in
theorem rtrace_yes (w : World) (v : Value) (l : List MTxn) (s : ByteArray) (h : TxnsIn Any w v l) (hG : Good l) (hT : tellN l s) : Calls Try.prog 13 #[v, .string s] w fun e w' => ∃ v', e = .returned (.tuple #[v', .bool (harmB (anoN l s))]) ∧ (harmB (anoN l s) = true → IntsIn Any w' v' (knwN l s (notes l l.length)).ts) ∧ (harmB (anoN l s) = false → v' = .slice none 0 0) ∧ (∃ a n c, v' = .slice a n c) ∧ Below w.heap.size w w' := by
  obtain ⟨i0, hi0, hz0, hz1, hz2⟩ := info_parts Try.infoI3
  have HI0 := hid hi0
  have HZ0 := hid hz0
  have HZ1 := hid hz1
  have HZ2 := hid hz2
  have KI : Hid (Calls Try.prog 35 #[v, .string s] w fun e w' => e = .returned (.int .i64 1) ∧ Below w.heap.size w w') := by
    have q := rkind_is w v l s h hG.len hG.ten
    rw [hT.1] at q
    exact q
  have UN : Hid (∀ W, Below w.heap.size w W → Calls Try.prog 36 #[v] W fun e w' => e = .returned (.bool true) ∧ Below W.heap.size W w') := fun W hb => (runiq_is W v l (h.below hb) hG.len hG.ten).mono fun e w' q => by
    obtain ⟨u, rfl, h2, h3⟩ := q
    rw [h2.2 hT.2]
    exact ⟨rfl, h3⟩
  have AN : Hid (∀ W, Below w.heap.size w W → Calls Try.prog 16 #[v, .string s] W fun e w' => ∃ v', e = .returned v' ∧ w'.ownsRow W.heap.size 85 9 v' (anoN l s).length (ansC (anoN l s)) ∧ Below W.heap.size W w') := fun W hb => ranom_yes W v l s (h.below hb) hG hT
  have RD : Hid (∀ W, Below w.heap.size w W → Calls Try.prog 38 #[v, .string s] W fun e w' => ∃ v' R, e = .returned v' ∧ w'.ownsRow W.heap.size 87 3 v' R.length (rdC R) ∧ RdsD Any W R (rdsN l s (notes l l.length)) ∧ Below W.heap.size W w') := fun W hb => reads_is W v l s (h.below hb) hG
  have hal := anoN_len hG s
  have hrl := hG.rlen (s := s)
  have TSL : Hid ((knwN l s (notes l l.length)).ts.length ≤ 100000) := hG.trace.2
  have ETS : Hid ((longD (rdsN l s (notes l l.length))).2.2 = (knwN l s (notes l l.length)).ts) := knwD_ts l s
  obtain ⟨a1, c1, rfl, _⟩ := RowsIn.cells h (by omega)
  clear h hG hT hi0 hz0 hz1 hz2
  generalize (knwN l s (notes l l.length)).ts = ts at *
  generalize rdsN l s (notes l l.length) = RX at *
  generalize anoN l s = A at *
  obtain ⟨TR, hTR⟩ : ∃ TR, longD RX = TR := ⟨_, rfl⟩
  have LO : Hid (∀ B v R w0 W, W.ownsRow B 87 3 v R.length (rdC R) → RdsD Any w0 R RX → Calls Try.prog 37 #[v] W fun e w' => ∃ ta tc, e = .returned (.agg #[.int .i64 TR.1, .int .i64 TR.2.1, .slice ta TR.2.2.length tc]) ∧ IntsIn Any w0 (.slice ta TR.2.2.length tc) TR.2.2 ∧ Below W.heap.size W w') := fun B v R w0 W ho hr => (longest_is B v R RX w0 W ho hr (by rw [hr.len]; omega)).mono fun e w' q => by
    rw [hTR] at q
    obtain ⟨ta, tc, q1, q2, _, q4⟩ := q
    exact ⟨ta, tc, q1, q2, q4⟩
  rw [hTR] at ETS
  obtain ⟨ti, tj, ts2⟩ := TR
  obtain rfl : ts2 = ts := ETS.out
  simp only at LO
  clear hTR ETS
  have hali : (A.length : Int) ≤ 150000 := by omega
  go_enter Try.func13, Try.ntmps13
  go_wp2_with (first
    | (go_at_call 35; refine KI.out.mono ?_; rintro e w1 ⟨rfl, b1⟩; have B1 := hid b1; clear b1)
    | (go_at_call 36; refine (UN.out _ B1.out).mono ?_; rintro e w2 ⟨rfl, b2⟩; have B2 := hid (B1.out.trans (b2.mono B1.out.size)); clear b2)
    | (go_at_call 16; refine (AN.out _ B2.out).mono ?_; rintro e w3 ⟨v3, rfl, o3, b3⟩; have B3 := hid (B2.out.trans (b3.mono B2.out.size)); obtain ⟨ra, rc, hrv⟩ := own_slice o3; subst hrv; have O3 := hid o3; clear b3 o3))
  clear KI UN AN B1 B2
  go_loopg [7, 21] A.length (fun gg _ i wr => ∃ k : Nat, k ≤ A.length ∧ A.length - k ≤ gg ∧ i = .int .i64 k ∧ Aside (Below w3.heap.size w3 wr) ∧ Aside (∀ j, j < k → (A.getD j default).1 = 6))
  case atStart => exact ⟨0, Nat.zero_le _, by omega, rfl, Below.refl _ _, fun j hj => by omega⟩
  case round =>
    obtain ⟨k, hk, hgk, rfl, BR, NX⟩ := hrel
    have BW : Hid (Below w.heap.size w wr) := B3.out.trans (BR.out.mono B3.out.size)
    by_cases hlt : k < A.length
    · have hlti : (k : Int) < A.length := by omega
      obtain ⟨g, c', hv⟩ := own_some O3.out (by omega)
      cases hv
      have hgl : g < w3.heap.size := (own_block O3.out rfl).2.1
      have ce : ∀ i u, i < 9 → (anC (A.getD k default))[i]? = some u → wr.cell? ⟨g, k * 9 + i, none⟩ = some u := fun i u hi hu => (BR.out.cell (p := ⟨g, k * 9 + i, none⟩) hgl).trans ((O3.out.cellAt (k * 9 + i) (by omega)).trans ((ansC_at A k i hlt hi).trans hu))
      obtain ⟨a, ha⟩ : ∃ a, A.getD k default = a := ⟨_, rfl⟩
      rw [ha] at ce
      have HA := hid ha
      obtain ⟨q0, q1, q2, q3, q4, q5⟩ := a
      have x0 := ce 0 _ (by omega) rfl
      have x1 := ce 1 _ (by omega) rfl
      have x2 := ce 2 _ (by omega) rfl
      have x3 := ce 3 _ (by omega) rfl
      have x4 := ce 4 _ (by omega) rfl
      have x5 := ce 5 _ (by omega) rfl
      have x6 := ce 6 _ (by omega) rfl
      have x7 := ce 7 _ (by omega) rfl
      have x8 := ce 8 _ (by omega) rfl
      simp only [Nat.add_zero] at x0 x1 x2 x3 x4 x5 x6 x7 x8
      clear ce ha
      by_cases h6 : q0 = 6
      · subst h6
        go_wp2_with fail
        go_roundg (A.length - (k + 1))
        case measure => omega
        case rel => exact ⟨k + 1, by omega, by omega, by go_num, BR.out.trans ((below_box wr _).mono BR.out.size), (fun j hj => by by_cases e : j = k; (· rw [e, HA.out]); (· exact NX.out j (by omega)))⟩
      · have h6b : (q0 == (6 : Int)) = false := by simpa using h6
        have HB : Hid (harmB A = false) := harm_not hlt (by rw [HA.out]; exact h6)
        go_wp2_with fail
        go_ret2
        rw [HB.out]
        exact ⟨_, rfl, (fun c => by cases c), (fun _ => rfl), ⟨_, _, _, rfl⟩, BW.out.trans ((below_box wr _).mono BW.out.size)⟩
    · have hke : k = A.length := by omega
      have hlti : ¬ (k : Int) < A.length := by omega
      subst hke
      have HB : Hid (harmB A = true) := harm_at NX.out
      have BE : Hid (Below wr.heap.size wr (wr.alloc (.cells #[] 3))) := below_box wr _
      have OE : Hid ((wr.alloc (.cells #[] 3)).ownsRow w.heap.size 3 1 (.slice (some ⟨wr.heap.size, 0, none⟩) 0 0) 0 []) := ⟨rfl, .inr ⟨wr.heap.size, 0, #[], rfl, BW.out.size, heap_alloc_new wr _, Nat.le_refl _, by unfold maxLen; omega, rfl, rfl⟩⟩
      have BWE : Hid (Below w.heap.size w (wr.alloc (.cells #[] 3))) := BW.out.trans (BE.out.mono BW.out.size)
      have htl := TSL.out
      have FL : ∀ (W : World) (ta : Option Addr) (n tc : Nat), (Instr.field 87 (.agg #[.int .i64 (ti : Int), .int .i64 (tj : Int), .slice ta n tc]) 2).run Try.prog W = .ok (.slice ta n tc) W := fun W ta n tc => by kernel_rfl
      by_cases h0 : ts2.length = 0
      · have h0b : ts2 = [] := List.length_eq_zero_iff.1 h0
        subst h0b
        go_wp2_with (first
              | (go_at_call 38; refine (RD.out _ BWE.out).mono ?_; rintro e w5 ⟨v5, R, rfl, o5, r5, b5⟩; have O5 := hid o5; have R5 := hid r5; have B5 := hid b5; obtain ⟨ra5, rc5, hrv⟩ := own_slice o5; subst hrv; clear o5 r5 b5)
              | (go_at_call 37; refine (LO.out _ _ _ _ _ O5.out R5.out).mono ?_; rintro e w6 ⟨ta, tc, rfl, i6, b6⟩; have I6 := hid i6; have B56 : Hid (Below (wr.alloc (.cells #[] 3)).heap.size (wr.alloc (.cells #[] 3)) w6) := B5.out.trans (b6.mono B5.out.size); have OX : Hid (w6.ownsRow w.heap.size 3 1 (.slice (some ⟨wr.heap.size, 0, none⟩) 0 0) 0 []) := own_same OE.out (fun g hg => B56.out.block g (own_block OE.out hg).2.1); have B6w : Hid (Below w.heap.size w w6) := BWE.out.trans (B56.out.mono BWE.out.size); clear i6 b6 )
              | (at_builtin; refine Lib.wpList_append_run_sl _ rfl _ _ 28 rfl (.slice (some ⟨wr.heap.size, 0, none⟩) 0 0) _ rfl rfl (append_zero2 _ 28 _ 3 i0 1 Try.underlying28 HI0.out _ _ _ _ _ OX.out) ?_))
        go_ret2
        rw [HB.out]
        exact ⟨_, rfl, (fun _ => ⟨_, _, rfl, ⟨by simp, by simp⟩, fun c => by simp at c⟩), (fun c => by cases c), ⟨_, _, _, rfl⟩, B6w.out⟩
      · go_wp2_with (first
              | (go_at_call 38; refine (RD.out _ BWE.out).mono ?_; rintro e w5 ⟨v5, R, rfl, o5, r5, b5⟩; have O5 := hid o5; have R5 := hid r5; have B5 := hid b5; obtain ⟨ra5, rc5, hrv⟩ := own_slice o5; subst hrv; clear o5 r5 b5)
              | (go_at_call 37; refine (LO.out _ _ _ _ _ O5.out R5.out).mono ?_; rintro e w6 ⟨ta, tc, rfl, i6, b6⟩; have I6 := hid i6; have B56 : Hid (Below (wr.alloc (.cells #[] 3)).heap.size (wr.alloc (.cells #[] 3)) w6) := B5.out.trans (b6.mono B5.out.size); obtain ⟨lb, lo, hta, hcl⟩ := ints_some I6.out h0; subst hta; have HCL := hid hcl; clear hcl; have hw6 : w.heap.size ≤ w6.heap.size := (by have := B56.out.size; have := BWE.out.size; omega); have OX : Hid (w6.ownsRow w.heap.size 3 1 (.slice (some ⟨wr.heap.size, 0, none⟩) 0 0) 0 []) := own_same OE.out (fun g hg => B56.out.block g (own_block OE.out hg).2.1); have B6w : Hid (Below w.heap.size w w6) := BWE.out.trans (B56.out.mono BWE.out.size); clear i6 b6 )
              | (at_builtin; refine wpList_append_lies _ rfl _ _ 28 rfl w.heap.size 3 i0 _ 1 8 Try.underlying28 HI0.out HZ0.out HZ1.out HZ2.out rfl (by decide) (.slice (some ⟨wr.heap.size, 0, none⟩) 0 0) 0 [] rfl OX.out ⟨lb, lo, none⟩ ts2.length tc (ts2.map (Value.int .i64)) rfl (by simp) (ints_news (HCL.out w6 B56.out)) (ints_one ts2) (by omega) (by unfold maxLen; omega) (by omega) hw6 w6.heap.size rfl ?_; intro g9 cap9 w9 hown9 hgrow9 hat9 hglt9; have O9 := hid hown9; have G9 := hid hgrow9; clear hown9 hgrow9 hat9 hglt9))
        go_ret2
        rw [HB.out]
        refine ⟨_, rfl, (fun _ => ints_owned (by simpa using O9.out) (by omega)), (fun c => by cases c), ⟨_, _, _, rfl⟩, ?_⟩
        exact ⟨G9.out.os.trans B6w.out.os, G9.out.tape.trans B6w.out.tape, G9.out.output.trans B6w.out.output, Nat.le_trans B6w.out.size G9.out.size, fun b hb => (G9.out.block b (by have := B6w.out.size; omega) (fun e => by have := (own_block OX.out e.symm).1; omega)).trans (B6w.out.block b hb)⟩
end Go.Proofs.Ytnfbcmnlloipiaa
namespace Go.Proofs.Ytnfbcmnlloipiaa
set_option linter.unusedVariables false
set_option linter.unusedSimpArgs false
open Go.RowKit Go.Lib Go.Maps Go.Sort
open Tx (MTxn info_parts RowsIn.cells RowCells TxnRow TxnsIn)

set_option maxHeartbeats 8000000 in
set_option maxRecDepth 100000 in
theorem reads_in {S : Nat → Prop} (w : World) (v : Value) (l : List MTxn) (s : ByteArray) (h : TxnsIn S w v l) (hG : Good l) :
    Calls Try.prog 38 #[v, .string s] w fun e w' => ∃ v' R, e = .returned v' ∧ w'.ownsRow w.heap.size 87 3 v' R.length (rdC R) ∧ RdsD S w R (rdsN l s (notes l l.length)) ∧ Below w.heap.size w w' := by
  obtain ⟨i0, hi0, hz0, hz1, hz2⟩ := info_parts Try.infoRd
  obtain ⟨a1, c1, rfl, l1, k1⟩ := RowsIn.cells h (by omega)
  have HI0 := hid hi0
  have HZ0 := hid hz0
  have HZ1 := hid hz1
  have HZ2 := hid hz2
  have HC := hid k1
  have HG := hid hG
  have hl : l.length ≤ 1000 := hG.len
  have hli : (l.length : Int) ≤ 1000 := by omega
  clear h hi0 hz0 hz1 hz2 k1 hG
  go_enter Try.func38, Try.ntmps38
  go_wp2_with fail
  go_loopg [5, 6, 7, 8, 9, 12] l.length (fun gg out _ _ _ _ i wr => ∃ k : Nat, k ≤ l.length ∧ l.length - k ≤ gg ∧ i = .int .i64 k ∧ Aside (Below w.heap.size w wr) ∧ Aside (∃ R, wr.ownsRow w.heap.size 87 3 out R.length (rdC R) ∧ RdsD S w R (rdsN l s (notes l k))))
  case atStart => exact ⟨0, Nat.zero_le _, by omega, rfl, Below.refl _ _, ⟨[], World.ownsRow_nil _ _ _ _, rfl, fun j hj => by simp at hj⟩⟩
  case round =>
    obtain ⟨k, hk, hgk, rfl, BR, OR⟩ := hrel
    by_cases hlt : k < l.length
    · have hlti : (k : Int) < l.length := by omega
      obtain ⟨b, o, cs, rfl, hbl, _, ⟨ov, hcs, hops⟩, hcell⟩ := HC.out k hlt
      subst hcs
      obtain ⟨oa, oc, hov, hol, hoc⟩ := id hops
      subst hov
      have hmem : l.getD k default ∈ l := by simp [List.getD, List.getElem?_eq_getElem hlt]
      have d0 := (BR.out.cell (p := ⟨b, o + k * 5 + 0, none⟩) hbl).trans (hcell 0 _ rfl)
      have d1 := (BR.out.cell (p := ⟨b, o + k * 5 + 1, none⟩) hbl).trans (hcell 1 _ rfl)
      have d2 := (BR.out.cell (p := ⟨b, o + k * 5 + 2, none⟩) hbl).trans (hcell 2 _ rfl)
      have d3 := (BR.out.cell (p := ⟨b, o + k * 5 + 3, none⟩) hbl).trans (hcell 3 _ rfl)
      have d4 := (BR.out.cell (p := ⟨b, o + k * 5 + 4, none⟩) hbl).trans (hcell 4 _ rfl)
      rw [Nat.add_zero] at d0
      have hten : (l.getD k default).ops.length ≤ 10 := HG.out.ten _ hmem
      have HWT : Hid (∀ o ∈ (l.getD k default).ops, ∀ x ∈ o.list, (Lit.int .i64 x).wf = true) := HG.out.wl _ hmem
      have hNl := notes_len l HG.out.ten k
      have HNT : Hid (notes l (k + 1) = notes l k ++ notesT k (l.getD k default).ops) := rfl
      have HOC := hid hoc
      obtain ⟨st, hst⟩ : ∃ st, (l.getD k default).state = st := ⟨_, rfl⟩
      have HST := hid hst
      rw [hst] at d1
      have BN : ∀ x, Hid (Below w.heap.size w (wr.alloc x)) := fun x => BR.out.trans ((below_box wr _).mono BR.out.size)
      have ON : ∀ y, Hid (∃ R, (wr.alloc y).ownsRow w.heap.size 87 3 u5 R.length (rdC R) ∧ RdsD S w R (rdsN l s (notes l k))) := fun y => by
        obtain ⟨R, h1, h2⟩ := OR.out
        exact ⟨R, own_same h1 (fun g hg => by rw [alloc_at, if_neg (by have := (own_block h1 hg).2.1; omega)]), h2⟩
      obtain ⟨T, hT⟩ : ∃ T, (l.getD k default).ops = T := ⟨_, rfl⟩
      rw [hT] at d4 hten HWT HNT HOC
      generalize (l.getD k default).proc = xp at d0
      generalize (l.getD k default).since = xf at d2
      generalize (l.getD k default).till = xt at d3
      clear hcell hops hoc hmem hT hst
      go_wp2_with fail
      have hTi : (T.length : Int) ≤ 10 := by omega
      have X3 : Hid ((wr.alloc (.cells #[.int .i64 xp, .int .i64 st, .int .i64 xf, .int .i64 xt, .slice oa T.length oc] 47)).heap[wr.heap.size]? = some (.cells #[.int .i64 xp, .int .i64 st, .int .i64 xf, .int .i64 xt, .slice oa T.length oc] 47)) := heap_alloc_new wr _
      have BN3 := BN (.cells #[.int .i64 xp, .int .i64 st, .int .i64 xf, .int .i64 xt, .slice oa T.length oc] 47)
      have ON3 := ON (.cells #[.int .i64 xp, .int .i64 st, .int .i64 xf, .int .i64 xt, .slice oa T.length oc] 47)
      clear BN ON BR OR d0 d1 d2 d3 d4
      generalize wr.alloc (.cells #[.int .i64 xp, .int .i64 st, .int .i64 xf, .int .i64 xt, .slice oa T.length oc] 47) = W3 at *
      generalize wr.heap.size = xb at *
      go_loopg [5, 8, 9, 20] T.length (fun gg out _ _ i wi => ∃ j : Nat, j ≤ T.length ∧ T.length - j ≤ gg ∧ i = .int .i64 j ∧ Aside (Below w.heap.size w wi ∧ wi.heap[xb]? = W3.heap[xb]?) ∧ Aside (∃ R, wi.ownsRow w.heap.size 87 3 out R.length (rdC R) ∧ RdsD S w R (rdsN l s (notes l k ++ (notesT k T).take j))))
      case atStart => exact ⟨0, Nat.zero_le _, by omega, rfl, ⟨BN3.out, rfl⟩, (by rw [List.take_zero, List.append_nil]; exact ON3.out)⟩
      case round =>
        obtain ⟨j, hj, hgj, rfl, BJ0, OJ⟩ := hrel
        obtain ⟨bj, bx47⟩ := BJ0.out
        have BX := hid bx47
        have BX47 := hid (bx47.trans X3.out)
        have cst : wr.cell? ⟨xb, 1, none⟩ = some (.int .i64 st) := Lib.cell_of_heap BX47.out 1
        clear bx47
        have BJ := hid bj
        by_cases hjl : j < T.length
        · have hjli : (j : Int) < T.length := by omega
          obtain ⟨ob, oo, rfl, _, hcs⟩ := HOC.out (by omega)
          obtain ⟨cs, _, ⟨lv, hcse, hli2⟩, hcell⟩ := hcs j hjl
          subst hcse
          obtain ⟨la, lc, rfl, _⟩ := id hli2
          have hobl := World.block_lt_of_cell? _ _ (hcell 0 _ rfl)
          have x0 := (BJ.out.cell (p := ⟨ob, oo + j * 6 + 0, none⟩) hobl).trans (hcell 0 _ rfl)
          have x1 := (BJ.out.cell (p := ⟨ob, oo + j * 6 + 1, none⟩) hobl).trans (hcell 1 _ rfl)
          have x2 := (BJ.out.cell (p := ⟨ob, oo + j * 6 + 2, none⟩) hobl).trans (hcell 2 _ rfl)
          have x3 := (BJ.out.cell (p := ⟨ob, oo + j * 6 + 3, none⟩) hobl).trans (hcell 3 _ rfl)
          have x4 := (BJ.out.cell (p := ⟨ob, oo + j * 6 + 4, none⟩) hobl).trans (hcell 4 _ rfl)
          have x5 := (BJ.out.cell (p := ⟨ob, oo + j * 6 + 5, none⟩) hobl).trans (hcell 5 _ rfl)
          rw [Nat.add_zero] at x0
          have hOm : T.getD j default ∈ T := by simp [List.getD, List.getElem?_eq_getElem hjl]
          have HLW : Hid (∀ x ∈ (T.getD j default).list, (Lit.int .i64 x).wf = true) := HWT.out _ hOm
          have HIN : Hid (IntsIn S w (.slice la (T.getD j default).list.length lc) (T.getD j default).list) := hli2
          have HTJ : Hid (rdsN l s (notes l k ++ (notesT k T).take (j + 1)) = rdsN l s (notes l k ++ (notesT k T).take j) ++ (if isRd s st (T.getD j default) then [(k, j, (T.getD j default).list)] else [])) := by
            show _ = _
            rw [notesT_take k T j hjl, ← List.append_assoc, rds_snoc]
            show _ ++ (if isRd s (l.getD k default).state (T.getD j default) then _ else _) = _
            rw [HST.out]
          obtain ⟨R, hR1, hR2⟩ := OJ.out
          obtain ⟨ra, rc, hrv⟩ := own_slice hR1
          subst hrv
          have hRl : R.length ≤ 20000 := by
            rw [hR2.len]
            have := rds_len l s (notes l k ++ (notesT k T).take j)
            rw [List.length_append, List.length_take, notesT_len] at this
            omega
          obtain ⟨RN, hRN⟩ : ∃ RN, rdsN l s (notes l k ++ (notesT k T).take (j + 1)) = RN := ⟨_, rfl⟩
          have HRN := hid hRN
          rw [hRN] at HTJ
          have OR1 := hid hR1
          have OR2 := hid hR2
          clear hcell hcs hli2 hOm hR1 hR2 hRN OJ BJ0
          generalize rdsN l s (notes l k ++ (notesT k T).take j) = RJ at *
          generalize T.getD j default = O at *
          obtain ⟨ok, os, ov, ol, oh, on⟩ := O
          simp only [MOp.kind, MOp.key, MOp.value, MOp.list, MOp.has, MOp.nl] at x0 x1 x2 x3 x4 x5 HLW HIN HTJ
          have hwrs : w.heap.size ≤ wr.heap.size := BJ.out.size
          have hcl : xb < wr.heap.size := World.block_lt_of_cell? _ _ cst
          have hne : ¬ (xb = wr.heap.size) := by omega
          have xa : ∀ o, (wr.alloc o).cell? ⟨xb, 1, none⟩ = some (.int .i64 st) := fun o => Lib.cell?_alloc_some _ cst
          have BN : ∀ x, Hid (Below w.heap.size w (wr.alloc x)) := fun x => BJ.out.trans ((below_box wr _).mono hwrs)
          have ON : ∀ y, Hid ((wr.alloc y).ownsRow w.heap.size 87 3 (.slice ra R.length rc) R.length (rdC R)) := fun y => own_same OR1.out (fun g hg => by rw [alloc_at, if_neg (by have := (own_block OR1.out hg).2.1; omega)])
          have XA : ∀ o, Hid ((wr.alloc o).heap[xb]? = W3.heap[xb]?) := fun o => by show _ = _; rw [alloc_at, if_neg hne]; exact BX.out
          have XOWN : (Value.slice ra R.length rc).ownBlock ≠ some xb := fun e => by
            obtain ⟨_, _, cs, hc⟩ := own_block OR1.out e
            have := BX47.out
            rw [hc] at this
            injection this with this
            injection this with _ this
            exact absurd this (by decide)
          have SK : isRd s st (ok, os, ov, ol, oh, on) = false → Hid (RN = RJ) := fun hc => by
            show RN = RJ
            rw [HTJ.out, hc]
            simp
          by_cases h1 : st = 1
          · subst h1
            by_cases h2 : ok = 2
            · subst h2
              cases oh with
              | false =>
                have hh := SK (by simp [isRd, MOp.has])
                clear SK HTJ
                go_wp2_with fail
                go_roundg (T.length - (j + 1))
                case measure => omega
                case rel => exact ⟨j + 1, by omega, by omega, by go_num, ⟨(BN _).out, (XA _).out⟩, ⟨R, (ON _).out, (by rw [HRN.out, hh.out]; exact OR2.out)⟩⟩
              | true =>
                by_cases hks : os = s
                · subst os
                  have hkb : (s.toList == s.toList) = true := by simp
                  have hh : Hid (RN = RJ ++ [(k, j, ol)]) := by
                    show RN = _
                    rw [HTJ.out]
                    simp [isRd, MOp.key, MOp.kind, MOp.has]
                  clear SK HTJ
                  have SZ1 : (wr.alloc (.cells #[.int .i64 2, .string s, .int .i64 ov, .slice la ol.length lc, .bool true, .bool on] 49)).heap.size = wr.heap.size + 1 := alloc_size _ _
                  have SZ : Hid (((wr.alloc (.cells #[.int .i64 2, .string s, .int .i64 ov, .slice la ol.length lc, .bool true, .bool on] 49)).alloc (.cells #[.int .i64 k, .int .i64 j, .slice la ol.length lc] 87)).heap.size = wr.heap.size + 2) := by show _ = _; rw [alloc_size, SZ1]
                  have B9 : Hid (∀ b, b < wr.heap.size → ((wr.alloc (.cells #[.int .i64 2, .string s, .int .i64 ov, .slice la ol.length lc, .bool true, .bool on] 49)).alloc (.cells #[.int .i64 k, .int .i64 j, .slice la ol.length lc] 87)).heap[b]? = wr.heap[b]?) := fun b hb => by rw [alloc_at, if_neg (by rw [SZ1]; omega), alloc_at, if_neg (by omega)]
                  have OX : Hid (((wr.alloc (.cells #[.int .i64 2, .string s, .int .i64 ov, .slice la ol.length lc, .bool true, .bool on] 49)).alloc (.cells #[.int .i64 k, .int .i64 j, .slice la ol.length lc] 87)).ownsRow w.heap.size 87 3 (.slice ra R.length rc) R.length (rdC R)) := own_same OR1.out (fun g hg => B9.out g (own_block OR1.out hg).2.1)
                  have NEW : Hid (∀ q u, ([.int .i64 (k : Int), .int .i64 (j : Int), .slice la ol.length lc] : List Value)[q]? = some u → ((wr.alloc (.cells #[.int .i64 2, .string s, .int .i64 ov, .slice la ol.length lc, .bool true, .bool on] 49)).alloc (.cells #[.int .i64 k, .int .i64 j, .slice la ol.length lc] 87)).cell? ((⟨wr.heap.size + 1, 0, none⟩ : Addr).add q) = some u) := by
                    have h := World.news_of_block (w := ((wr.alloc (.cells #[.int .i64 2, .string s, .int .i64 ov, .slice la ol.length lc, .bool true, .bool on] 49)).alloc (.cells #[.int .i64 k, .int .i64 j, .slice la ol.length lc] 87))) (B := (wr.alloc (.cells #[.int .i64 2, .string s, .int .i64 ov, .slice la ol.length lc, .bool true, .bool on] 49)).heap.size) (cs := #[.int .i64 k, .int .i64 j, .slice la ol.length lc]) (t := 87) (fr := (0, 0)) (heap_alloc_new (wr.alloc (.cells #[.int .i64 2, .string s, .int .i64 ov, .slice la ol.length lc, .bool true, .bool on] 49)) _)
                    rw [SZ1] at h
                    exact h
                  have ONE : Hid (∀ u ∈ ([.int .i64 (k : Int), .int .i64 (j : Int), .slice la ol.length lc] : List Value), u.oneCell' = true) := by
                    intro u hu
                    simp only [List.mem_cons, List.not_mem_nil, or_false] at hu
                    rcases hu with rfl | rfl | rfl <;> rfl
                  go_wp2_with (at_builtin; refine wpList_append_lies _ rfl _ _ 89 rfl w.heap.size 87 i0 _ 3 40 Try.underlying89 HI0.out HZ0.out HZ1.out HZ2.out rfl (by decide) (.slice ra R.length rc) R.length (rdC R) rfl OX.out ⟨wr.heap.size + 1, 0, none⟩ 1 1 [.int .i64 (k : Int), .int .i64 (j : Int), .slice la ol.length lc] rfl rfl NEW.out ONE.out (by decide) (by unfold maxLen; omega) (by omega) (by rw [SZ.out]; omega) (wr.heap.size + 2) SZ.out ?_; intro g8 cap8 w8 hown8 hgrow8 hat8 hglt8; have O8 := hid hown8; have G8 := hid hgrow8; clear hown8 hgrow8 hat8 hglt8)
                  have same8 : ∀ b, b < wr.heap.size → (Value.slice ra R.length rc).ownBlock ≠ some b → w8.heap[b]? = wr.heap[b]? := fun b hb hn => (G8.out.block b (by rw [SZ.out]; omega) (fun e => hn e.symm)).trans (B9.out b hb)
                  go_roundg (T.length - (j + 1))
                  case measure => omega
                  case rel =>
                    refine ⟨j + 1, by omega, by omega, by go_num, ⟨⟨G8.out.os.trans BJ.out.os, G8.out.tape.trans BJ.out.tape, G8.out.output.trans BJ.out.output, Nat.le_trans (by rw [SZ.out]; omega) G8.out.size, fun b hb => (same8 b (by omega) (fun e => by have := (own_block OR1.out e).1; omega)).trans (BJ.out.block b hb)⟩, ?_⟩, ⟨R ++ [(k, j, la, ol.length, lc)], ?_, ?_⟩⟩
                    · exact (same8 xb hcl XOWN).trans BX.out
                    · rw [List.length_append, rdC_snoc]
                      exact O8.out
                    · rw [HRN.out, hh.out]
                      exact OR2.out.snoc k j la lc ol HIN.out HLW.out
                · have hkb : (os.toList == s.toList) = false := by
                    cases hc : (os.toList == s.toList) with
                    | false => rfl
                    | true => exact absurd (cond_ws ▸ hc) hks
                  have hh := SK (by simp [isRd, MOp.key, hks])
                  clear SK HTJ
                  go_wp2_with fail
                  go_roundg (T.length - (j + 1))
                  case measure => omega
                  case rel => exact ⟨j + 1, by omega, by omega, by go_num, ⟨(BN _).out, (XA _).out⟩, ⟨R, (ON _).out, (by rw [HRN.out, hh.out]; exact OR2.out)⟩⟩
            · have h2b : (ok == (2 : Int)) = false := by simpa using h2
              have hh := SK (by simp [isRd, MOp.kind, h2])
              clear SK HTJ
              go_wp2_with fail
              go_roundg (T.length - (j + 1))
              case measure => omega
              case rel => exact ⟨j + 1, by omega, by omega, by go_num, ⟨(BN _).out, (XA _).out⟩, ⟨R, (ON _).out, (by rw [HRN.out, hh.out]; exact OR2.out)⟩⟩
          · have h1b : (st == (1 : Int)) = false := by simpa using h1
            have hh := SK (by simp [isRd, h1])
            clear SK HTJ
            go_wp2_with fail
            go_roundg (T.length - (j + 1))
            case measure => omega
            case rel => exact ⟨j + 1, by omega, by omega, by go_num, ⟨(BN _).out, (XA _).out⟩, ⟨R, (ON _).out, (by rw [HRN.out, hh.out]; exact OR2.out)⟩⟩
        · have hje : j = T.length := by omega
          have hjli : ¬ (j : Int) < T.length := by omega
          have HN2 : Hid (notes l (k + 1) = notes l k ++ (notesT k T).take j) := by
            show _ = _
            rw [HNT.out, List.take_of_length_le (by rw [notesT_len]; omega)]
          have SE := hid OJ.out
          go_wp2_with fail
          go_roundg (l.length - (k + 1))
          case measure => omega
          case rel => exact ⟨k + 1, by omega, by omega, by go_num, BJ.out, (by rw [HN2.out]; exact SE.out)⟩
    · have hke : k = l.length := by omega
      have hlti : ¬ (k : Int) < l.length := by omega
      subst hke
      obtain ⟨R, hR1, hR2⟩ := OR.out
      have OR1 := hid hR1
      have OR2 := hid hR2
      clear hR1 hR2
      go_wp2_with fail
      go_ret
      exact ⟨_, rfl, R, OR1.out, OR2.out, BR.out⟩
end Go.Proofs.Ytnfbcmnlloipiaa
