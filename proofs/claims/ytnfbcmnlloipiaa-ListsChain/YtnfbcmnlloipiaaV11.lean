/-
  The anomalies of a look.
  A look's anomalies; trusted, Trace and Anomalies of any made table.
  trusted, Trace and Anomalies where something is told.
  Dependencies, plain and in memory; a map that counts them.
-/
import Derived.Test.YtnfbcmnlloipiaaV10
import Derived.Test.YtnfbcmnlloipiaaV2
namespace Go.Proofs.Ytnfbcmnlloipiaa
set_option linter.unusedVariables false
set_option linter.unusedSimpArgs false
open Go.RowKit Go.Lib Go.Maps

set_option maxHeartbeats 8000000 in
set_option maxRecDepth 100000 in
theorem anomalies_is (K : Knw) (B kb sb n : Nat) (s : ByteArray) (rv : Value) (R : List MRd) (RX : List MRx) (t2 : Nat) (ta : Option Addr) (tc : Nat) (w : World) (h : Lg B w kb s rv R (K.ti, t2, ta, K.ts.length, tc) sb) (hR : Rds w R RX) (hRl : RX.length ≤ 100000) (hts : IntsIn Any w (.slice ta K.ts.length tc) K.ts) (htw : ∀ x ∈ K.ts, (Lit.int .i64 x).wf = true) (htl : K.ts.length ≤ 100000) (hle : ∀ r ∈ RX, r.2.2.length ≤ K.ts.length) (hs : Sc w sb n K.f) (hfb : ∀ x, ((K.f x).getD noSrc).1 < 1000000 ∧ ((K.f x).getD noSrc).2.1 < 1000000) : Calls Try.prog 42 #[.pointer (some ⟨kb, 0, none⟩)] w fun e w' => ∃ v, e = .returned v ∧ w'.ownsRow (w.heap.size + 1) 85 9 v (anoM K s RX).length (ansC (anoM K s RX)) ∧ Below w.heap.size w w' := by
  obtain ⟨i0, hi0, hz0, hz1, hz2⟩ := Tx.info_parts Try.infoAn
  have HI0 := hid hi0
  have HZ0 := hid hz0
  have HZ1 := hid hz1
  have HZ2 := hid hz2
  clear hi0 hz0 hz1 hz2
  have H := hid h
  have HR := hid hR
  have HT := hid hts
  have HTW := hid htw
  have HLE := hid hle
  have HS := hid hs
  have HFB := hid hfb
  obtain ⟨ra, rc, hrv⟩ := own_slice h.own
  subst hrv
  have hkb : kb < w.heap.size := blt h.box
  have hlen := hR.len
  clear h hR hts htw hle hs hfb
  go_enter Try.func42, Try.ntmps42
  go_wp2_with fail
  have B0 : Hid (Below w.heap.size w (w.alloc (.cells (fns kb) 126))) := below_box w _
  have hs0 : (w.alloc (.cells (fns kb) 126)).heap.size = w.heap.size + 1 := by rw [alloc_size]
  have F0 : Hid (∀ i, (w.alloc (.cells (fns kb) 126)).cell? ⟨w.heap.size, i, none⟩ = (fns kb)[i]?) := fun i => new_cells w _ 126 i
  obtain ⟨W0, hW0⟩ : ∃ W0, w.alloc (.cells (fns kb) 126) = W0 := ⟨_, rfl⟩
  rw [hW0] at B0 hs0 F0
  rw [show w.alloc (.cells #[.func (.func 70) #[.pointer (some ⟨kb, 0, none⟩)] #[], .func (.func 71) #[.pointer (some ⟨kb, 0, none⟩)] #[], .func (.func 72) #[.pointer (some ⟨kb, 0, none⟩)] #[], .func (.func 73) #[.pointer (some ⟨kb, 0, none⟩)] #[], .func (.func 74) #[.pointer (some ⟨kb, 0, none⟩)] #[]] 126) = W0 from hW0]
  clear hW0
  go_loopg [3, 5, 7, 8, 9, 22] 5 (fun g l _ _ _ _ i wr => ∃ k : Nat, k ≤ 5 ∧ 5 - k ≤ g ∧ i = .int .i64 k ∧ Aside (Below W0.heap.size W0 wr) ∧ Aside (wr.ownsRow (w.heap.size + 1) 85 9 l (uptoA K s RX k 0).length (ansC (uptoA K s RX k 0))))
  case atStart => exact ⟨0, by omega, by omega, rfl, Below.refl _ _, (show Aside _ from by rw [uptoA_zero]; exact World.ownsRow_nil _ _ _ _)⟩
  case round =>
    obtain ⟨k, hk, hg, rfl, BW, OW⟩ := hrel
    have BR : Hid (Below w.heap.size w wr) := B0.out.trans (BW.out.mono B0.out.size)
    have c1 : wr.cell? ⟨kb, 1, none⟩ = some (.slice ra R.length rc) := by
      have q := (BR.out.block kb hkb).trans H.out.box
      have q2 := Lib.cell_of_heap q 1
      exact q2
    by_cases hlt : k < 5
    · have hlti : (k : Int) < 5 := by omega
      obtain ⟨fi, HF, cv⟩ : ∃ fi, Hid (fi = 70 + k) ∧ wr.cell? ⟨w.heap.size, k, none⟩ = some (.func (.func fi) #[.pointer (some ⟨kb, 0, none⟩)] #[]) := by
        have hc := (BW.out.cell (p := ⟨w.heap.size, k, none⟩) (by show w.heap.size < W0.heap.size; omega)).trans (F0.out k)
        have hk5 : k = 0 ∨ k = 1 ∨ k = 2 ∨ k = 3 ∨ k = 4 := by omega
        refine ⟨70 + k, rfl, ?_⟩
        rcases hk5 with rfl | rfl | rfl | rfl | rfl <;> exact hc
      go_wp2_with fail
      clear cv c1
      go_loopg [3, 7, 8, 9, 31] RX.length (fun g l _ _ _ i wi => ∃ q : Nat, q ≤ RX.length ∧ RX.length - q ≤ g ∧ i = .int .i64 q ∧ Aside (Below W0.heap.size W0 wi) ∧ Aside (wi.ownsRow (w.heap.size + 1) 85 9 l (uptoA K s RX k q).length (ansC (uptoA K s RX k q))))
      case atStart => exact ⟨0, by omega, by omega, rfl, BW.out, OW.out⟩
      case round =>
        obtain ⟨q, hq, hgq, rfl, BJ, OJ⟩ := hrel
        by_cases hq1 : q < RX.length
        · have hq1i : (q : Int) < R.length := by omega
          have BI : Hid (Below w.heap.size w wr) := B0.out.trans (BJ.out.mono B0.out.size)
          have OR := own_same (w' := wr) H.out.own (fun g hg => BI.out.block g (own_block H.out.own hg).2.1)
          obtain ⟨gb, rfl⟩ : ∃ gb, ra = some ⟨gb, 0, none⟩ := by
            rcases H.out.own.2 with ⟨_, hn⟩ | ⟨g, cap, cur, hv, _⟩
            · omega
            · injection hv with hv
              exact ⟨g, hv⟩
          obtain ⟨la, lc, hRq, hin, hwf⟩ := HR.out.at' q (by omega)
          have HN : Hid (uptoA K s RX k (q + 1) = uptoA K s RX k q ++ oneA K s k (RX.getD q default)) := uptoA_next K s RX k q hq1
          have hxl : (RX.getD q default).2.2.length ≤ K.ts.length := HLE.out _ (by simp [List.getD, List.getElem?_eq_getElem hq1])
          obtain ⟨r, hX⟩ : ∃ r, RX.getD q default = r := ⟨_, rfl⟩
          rw [hX] at hRq hin hwf HN hxl
          clear hX
          obtain ⟨ri, rj, xs⟩ := r
          simp only at hRq hin hwf hxl
          have ce : ∀ i u, i < 3 → (rdVs (R.getD q default))[i]? = some u → wr.cell? ⟨gb, q * 3 + i, none⟩ = some u := fun i u hi hu => by
            have qq := OR.cellAt (q * 3 + i) (by omega)
            exact qq.trans ((rdC_at R q i (by omega) hi).trans hu)
          rw [hRq] at ce
          have x0 := ce 0 _ (by omega) rfl
          have x1 := ce 1 _ (by omega) rfl
          have x2 := ce 2 _ (by omega) rfl
          simp only [Nat.add_zero] at x0 x1 x2
          have FI : Hid (∀ W, Below w.heap.size w W → Calls Try.prog fi #[.pointer (some ⟨kb, 0, none⟩), .agg #[.int .i64 ri, .int .i64 rj, .slice la xs.length lc]] W fun e w' => e = .returned (tellV (findM K ri rj xs k)) ∧ Below W.heap.size W w') := fun W hW => by
            obtain ⟨F, hF, _⟩ := id HS.out
            have bx := (hW.block kb hkb).trans H.out.box
            rw [HF.out]
            exact find_is K kb sb n ri rj la ta lc tc xs W (hin.below hW) hwf (HT.out.below hW) hxl (Lib.cell_of_heap bx 2) (Lib.cell_of_heap bx 4) (Lib.cell_of_heap bx 5) (HS.out.same (hW.block sb hF.lt)) k hlt
          clear ce OR hRq hin hwf
          cases hf : findM K ri rj xs k with
          | none =>
            rw [hf, show tellV none = .tuple #[an0, .bool false] from rfl] at FI
            have HO : Hid (uptoA K s RX k (q + 1) = uptoA K s RX k q) := by show _ = _; rw [HN.out]; simp [oneA, hf]
            clear hf HN
            have hk5 : fi = 70 ∨ fi = 71 ∨ fi = 72 ∨ fi = 73 ∨ fi = 74 := by have := HF.out; omega
            clear HF
            rcases hk5 with rfl | rfl | rfl | rfl | rfl
            all_goals
             go_wp2_with (refine (FI.out _ (BI.out.alloc BI.out.size _)).mono ?_; rintro e w1 ⟨rfl, b1⟩; have N1 : Hid (Below wr.heap.size wr w1) := (box_later b1).2.2.2; clear b1)
             go_roundg (RX.length - (q + 1))
             case measure => omega
             case rel =>
              have BN := BJ.out.trans (N1.out.mono BJ.out.size)
              refine ⟨q + 1, by omega, by omega, by go_num, BN.trans ((below_box w1 _).mono BN.size), (show Aside _ from ?_)⟩
              rw [HO.out]
              refine own_same OJ.out (fun g hg => ?_)
              have := (own_block OJ.out hg).2.1
              exact ((below_box w1 _).block g (Nat.lt_of_lt_of_le this N1.out.size)).trans (N1.out.block g this)
          | some a =>
            obtain ⟨kd, oth, x⟩ := a
            obtain ⟨va, vc, hva⟩ := own_slice OJ.out
            subst hva
            rw [hf, show tellV (some (kd, oth, x)) = .tuple #[anV kd oth x, .bool true] from rfl] at FI
            have HO : Hid (uptoA K s RX k (q + 1) = uptoA K s RX k q ++ [(kd, (ri : Int), (rj : Int), oth, s, x)]) := by show _ = _; rw [HN.out]; simp [oneA, hf]
            clear hf HN
            have hk5 : fi = 70 ∨ fi = 71 ∨ fi = 72 ∨ fi = 73 ∨ fi = 74 := by have := HF.out; omega
            clear HF
            rcases hk5 with rfl | rfl | rfl | rfl | rfl
            all_goals
             go_wp2_with (refine (FI.out _ (BI.out.alloc BI.out.size _)).mono ?_; rintro e w1 ⟨rfl, b1⟩; have BX := hid (box_later b1); have N1 : Hid (Below wr.heap.size wr w1) := BX.out.2.2.2; have p1 : ∀ o, (w1.alloc o).cell? ⟨wr.heap.size, 0, none⟩ = some (.int .i64 ri) := fun o => Lib.cell?_alloc_some _ (BX.out.2.1 0); have p2 : ∀ o, (w1.alloc o).cell? ⟨wr.heap.size, 1, none⟩ = some (.int .i64 rj) := fun o => Lib.cell?_alloc_some _ (BX.out.2.1 1); have p0 : ∀ o, (w1.alloc o).cell? ⟨kb, 0, none⟩ = some (.string s) := fun o => Lib.cell?_alloc_some _ ((World.cell?_of_block (a := ⟨kb, 0, none⟩) (N1.out.block kb (Nat.lt_of_lt_of_le hkb BI.out.size))).trans ((World.cell?_of_block (a := ⟨kb, 0, none⟩) (BI.out.block kb hkb)).trans (Lib.cell_of_heap H.out.box 0))); have hn1 : ¬ (wr.heap.size = w1.heap.size) := (by have := BX.out.1; omega); have hn2 : ¬ (kb = w1.heap.size) := (by have := BX.out.1; have := BI.out.size; omega); clear b1)
             have SZ : Hid ((((w1.alloc (.cells #[.int .i64 kd, .int .i64 ri, .int .i64 rj, .int .i64 oth, .string s, .int .i64 x, .slice none 0 0, .bool false, .int .i64 0] 85)).alloc (.cells #[.int .i64 kd, .int .i64 ri, .int .i64 rj, .int .i64 oth, .string s, .int .i64 x, .slice none 0 0, .bool false, .int .i64 0] 85)).drew).heap.size = w1.heap.size + 2) := by show ((w1.alloc _).alloc _).heap.size = _; rw [alloc_size, alloc_size]
             have B9 : Hid (∀ b, b < w1.heap.size → (((w1.alloc (.cells #[.int .i64 kd, .int .i64 ri, .int .i64 rj, .int .i64 oth, .string s, .int .i64 x, .slice none 0 0, .bool false, .int .i64 0] 85)).alloc (.cells #[.int .i64 kd, .int .i64 ri, .int .i64 rj, .int .i64 oth, .string s, .int .i64 x, .slice none 0 0, .bool false, .int .i64 0] 85)).drew).heap[b]? = w1.heap[b]?) := fun b hb => by show ((w1.alloc _).alloc _).heap[b]? = _; rw [alloc_at, if_neg (by rw [alloc_size]; omega), alloc_at, if_neg (by omega)]
             have NEW : Hid (∀ j u, ([.int .i64 kd, .int .i64 (ri : Int), .int .i64 (rj : Int), .int .i64 oth, .string s, .int .i64 x, .slice none 0 0, .bool false, .int .i64 (0 : Int)] : List Value)[j]? = some u → (((w1.alloc (.cells #[.int .i64 kd, .int .i64 ri, .int .i64 rj, .int .i64 oth, .string s, .int .i64 x, .slice none 0 0, .bool false, .int .i64 0] 85)).alloc (.cells #[.int .i64 kd, .int .i64 ri, .int .i64 rj, .int .i64 oth, .string s, .int .i64 x, .slice none 0 0, .bool false, .int .i64 0] 85)).drew).cell? ((⟨w1.heap.size + 1, 0, none⟩ : Addr).add j) = some u) := by
               have h := World.news_of_block (w := (((w1.alloc (.cells #[.int .i64 kd, .int .i64 ri, .int .i64 rj, .int .i64 oth, .string s, .int .i64 x, .slice none 0 0, .bool false, .int .i64 0] 85)).alloc (.cells #[.int .i64 kd, .int .i64 ri, .int .i64 rj, .int .i64 oth, .string s, .int .i64 x, .slice none 0 0, .bool false, .int .i64 0] 85)).drew)) (B := (w1.alloc (.cells #[.int .i64 kd, .int .i64 ri, .int .i64 rj, .int .i64 oth, .string s, .int .i64 x, .slice none 0 0, .bool false, .int .i64 0] 85)).heap.size) (cs := #[.int .i64 kd, .int .i64 ri, .int .i64 rj, .int .i64 oth, .string s, .int .i64 x, .slice none 0 0, .bool false, .int .i64 0]) (t := 85) (fr := (0, 0)) (heap_alloc_new (w1.alloc (.cells #[.int .i64 kd, .int .i64 ri, .int .i64 rj, .int .i64 oth, .string s, .int .i64 x, .slice none 0 0, .bool false, .int .i64 0] 85)) _)
               rw [alloc_size] at h
               exact h
             have ONE : Hid (∀ u ∈ ([.int .i64 kd, .int .i64 (ri : Int), .int .i64 (rj : Int), .int .i64 oth, .string s, .int .i64 x, .slice none 0 0, .bool false, .int .i64 (0 : Int)] : List Value), u.oneCell' = true) := by
               intro u hu
               simp only [List.mem_cons, List.not_mem_nil, or_false] at hu
               rcases hu with rfl | rfl | rfl | rfl | rfl | rfl | rfl | rfl | rfl <;> rfl
             have OX : Hid ((((w1.alloc (.cells #[.int .i64 kd, .int .i64 ri, .int .i64 rj, .int .i64 oth, .string s, .int .i64 x, .slice none 0 0, .bool false, .int .i64 0] 85)).alloc (.cells #[.int .i64 kd, .int .i64 ri, .int .i64 rj, .int .i64 oth, .string s, .int .i64 x, .slice none 0 0, .bool false, .int .i64 0] 85)).drew).ownsRow (w.heap.size + 1) 85 9 (.slice va (uptoA K s RX k q).length vc) (uptoA K s RX k q).length (ansC (uptoA K s RX k q))) := own_same OJ.out (fun g hg => (B9.out g (Nat.lt_of_lt_of_le (own_block OJ.out hg).2.1 N1.out.size)).trans (N1.out.block g (own_block OJ.out hg).2.1))
             have hul := uptoA_len K s RX k q (by omega)
             have hul2 : (uptoA K s RX k q).length ≤ 600000 := by
               have : k * RX.length ≤ 4 * 100000 := Nat.mul_le_mul (by omega) (by omega)
               omega
             have hw1 : w.heap.size + 1 ≤ w1.heap.size + 2 := by have := BI.out.size; have := N1.out.size; omega
             go_region
             go_wp2_with (at_builtin; refine wpList_append_lies _ rfl _ _ 33 rfl (w.heap.size + 1) 85 i0 _ 9 96 Try.underlying33 HI0.out HZ0.out HZ1.out HZ2.out rfl (by decide) (.slice va (uptoA K s RX k q).length vc) (uptoA K s RX k q).length (ansC (uptoA K s RX k q)) rfl OX.out ⟨w1.heap.size + 1, 0, none⟩ 1 1 [.int .i64 kd, .int .i64 (ri : Int), .int .i64 (rj : Int), .int .i64 oth, .string s, .int .i64 x, .slice none 0 0, .bool false, .int .i64 (0 : Int)] rfl rfl NEW.out ONE.out (by decide) (by unfold maxLen; omega) (by omega) (by rw [SZ.out]; omega) (w1.heap.size + 2) SZ.out ?_; intro g8 cap8 w8 hown8 hgrow8 hat8 hglt8; have O8 := hid hown8; have G8 := hid hgrow8; clear hown8 hgrow8 hat8 hglt8)
             go_roundg (RX.length - (q + 1))
             case measure => omega
             case rel =>
              have hz := BJ.out.size
              have hz1 := N1.out.size
              refine ⟨q + 1, by omega, by omega, by go_num, (show Aside _ from ⟨G8.out.os.trans (N1.out.os.trans BJ.out.os), G8.out.tape.trans (N1.out.tape.trans BJ.out.tape), G8.out.output.trans (N1.out.output.trans BJ.out.output), Nat.le_trans (by rw [SZ.out]; omega) G8.out.size, fun b hb => (G8.out.block b (by rw [SZ.out]; omega) (fun e => by have := (own_block OJ.out e.symm).1; omega)).trans ((B9.out b (by omega)).trans ((N1.out.block b (by omega)).trans (BJ.out.block b hb)))⟩), (show Aside _ from ?_)⟩
              rw [HO.out, List.length_append, ansC_snoc]
              exact O8.out
        · have hqe : q = RX.length := by omega
          have hq1i : ¬ (q : Int) < R.length := by omega
          go_wp2_with fail
          go_roundg (5 - (k + 1))
          case measure => omega
          case rel => exact ⟨k + 1, by omega, by omega, by go_num, BJ.out, (show Aside _ from by rw [← uptoA_row, ← hqe]; exact OJ.out)⟩
    · have hlti : ¬ (k : Int) < 5 := by omega
      have hk5 : k = 5 := by omega
      subst hk5
      obtain ⟨A, hA⟩ : ∃ A, uptoA K s RX 5 0 = A := ⟨_, rfl⟩
      have hul : A.length ≤ 500000 := by
        have := uptoA_len K s RX 5 0 (by omega)
        rw [hA] at this
        omega
      rw [hA] at OW
      have HA := hid hA
      obtain ⟨va, vc, hva⟩ := own_slice OW.out
      subst hva
      have HM : Hid (Calls Try.prog 62 #[.slice va A.length vc] wr fun e w' => e = .returned (.bool (harmB A)) ∧ Below wr.heap.size wr w') := harmless_is (w.heap.size + 1) _ A wr OW.out (by omega)
      obtain ⟨D, hD⟩ : ∃ D, disK K.f s K.ts K.ts.length = D := ⟨_, rfl⟩
      have hdl : D.length ≤ 100000 := by
        have := disK_len K.f s K.ts K.ts.length
        rw [hD] at this
        omega
      have DI : Hid (∀ W, Below w.heap.size w W → Calls Try.prog 75 #[.pointer (some ⟨kb, 0, none⟩)] W fun e w' => ∃ v, e = .returned v ∧ w'.ownsRow (W.heap.size + 1) 85 9 v D.length (ansC D) ∧ Below W.heap.size W w') := fun W hW => by
        obtain ⟨F, hF, _⟩ := id HS.out
        have bx := (hW.block kb hkb).trans H.out.box
        have h := disorder_is kb sb n K.f s ta tc K.ts W (HT.out.below hW) HTW.out htl (Lib.cell_of_heap bx 0) (Lib.cell_of_heap bx 4) (Lib.cell_of_heap bx 5) (HS.out.same (hW.block sb hF.lt)) HFB.out
        rw [hD] at h
        exact h
      have HD := hid hD
      clear hA hD
      cases hb : harmB A with
      | false =>
        rw [hb] at HM
        have HB := hid hb
        clear hb
        go_wp2_with (go_at_call 62; refine HM.out.mono ?_; rintro e w1 ⟨rfl, b1⟩; have N1 := hid b1; clear b1)
        go_ret
        refine ⟨_, rfl, (by unfold anoM; rw [HA.out, HD.out, HB.out]; simp only [Bool.false_eq_true, if_false, List.append_nil]; exact own_same OW.out (fun g hg => N1.out.block g (own_block OW.out hg).2.1)), BR.out.trans (N1.out.mono BR.out.size)⟩
      | true =>
        rw [hb] at HM
        have HB := hid hb
        clear hb
        by_cases hd0 : D.length = 0
        · have hd : D = [] := List.length_eq_zero_iff.1 hd0
          subst hd
          go_wp2_with (first
            | (go_at_call 62; refine HM.out.mono ?_; rintro e w1 ⟨rfl, b1⟩; have N1 := hid b1; clear b1)
            | (go_at_call 75; refine (DI.out _ (BR.out.trans (N1.out.mono BR.out.size))).mono ?_; rintro e w2 ⟨v2, rfl, o2, b2⟩; have O2 := hid o2; have N2 : Hid (Below wr.heap.size wr w2) := N1.out.trans (b2.mono N1.out.size); have OX : Hid (w2.ownsRow (w.heap.size + 1) 85 9 (.slice va A.length vc) A.length (ansC A)) := own_same OW.out (fun g hg => N2.out.block g (own_block OW.out hg).2.1); clear o2 b2)
            | (at_builtin; refine Lib.wpList_append_run_sl _ rfl _ _ 33 rfl (.slice va A.length vc) _ rfl rfl (append_zero _ _ 33 _ 85 i0 9 Try.underlying33 HI0.out _ _ _ _ _ OX.out O2.out) ?_))
          go_ret
          exact ⟨_, rfl, (by unfold anoM; rw [HA.out, HD.out, HB.out]; simp only [if_true, List.append_nil]; exact OX.out), BR.out.trans (N2.out.mono BR.out.size)⟩
        · go_wp2_with (first
            | (go_at_call 62; refine HM.out.mono ?_; rintro e w1 ⟨rfl, b1⟩; have N1 := hid b1; clear b1)
            | (go_at_call 75; refine (DI.out _ (BR.out.trans (N1.out.mono BR.out.size))).mono ?_; rintro e w2 ⟨v2, rfl, o2, b2⟩; obtain ⟨g2, c2, hv2⟩ : ∃ g2 c2, v2 = .slice (some ⟨g2, 0, none⟩) D.length c2 := own_some o2 hd0; subst hv2; have O2 := hid o2; have N2 : Hid (Below wr.heap.size wr w2) := N1.out.trans (b2.mono N1.out.size); have OX : Hid (w2.ownsRow (w.heap.size + 1) 85 9 (.slice va A.length vc) A.length (ansC A)) := own_same OW.out (fun g hg => N2.out.block g (own_block OW.out hg).2.1); have hw2 : w.heap.size + 1 ≤ w2.heap.size := (by have := N2.out.size; have := BW.out.size; omega); clear o2 b2)
            | (at_builtin; refine wpList_append_lies _ rfl _ _ 33 rfl (w.heap.size + 1) 85 i0 _ 9 96 Try.underlying33 HI0.out HZ0.out HZ1.out HZ2.out rfl (by decide) (.slice va A.length vc) A.length (ansC A) rfl OX.out ⟨g2, 0, none⟩ D.length c2 (ansC D) rfl (ansC_len D) (ans_news O2.out) (ansC_one D) (by omega) (by unfold maxLen; omega) (by omega) hw2 w2.heap.size rfl ?_; intro g8 cap8 w8 hown8 hgrow8 hat8 hglt8; have O8 := hid hown8; have G8 := hid hgrow8; clear hown8 hgrow8 hat8 hglt8))
          go_ret
          refine ⟨_, rfl, ?_, ?_⟩
          · unfold anoM
            rw [HA.out, HD.out, HB.out]
            simp only [if_true]
            rw [List.length_append, ansC_append]
            exact O8.out
          · have B2 := BR.out.trans (N2.out.mono BR.out.size)
            exact ⟨G8.out.os.trans B2.os, G8.out.tape.trans B2.tape, G8.out.output.trans B2.output, Nat.le_trans B2.size G8.out.size, fun b hb => (G8.out.block b (by have := B2.size; omega) (fun e => by have := (own_block OX.out e.symm).1; omega)).trans (B2.block b hb)⟩
end Go.Proofs.Ytnfbcmnlloipiaa
namespace Go.Proofs.Ytnfbcmnlloipiaa
set_option linter.unusedVariables false
set_option linter.unusedSimpArgs false
open Go.RowKit Go.Lib Go.Maps
open Tx (MTxn OpsOwn RowsIn.cells)

/-- Transactions within the bounds. -/
structure Good (l : List MTxn) : Prop where
  len : l.length ≤ 1000
  ten : ∀ t ∈ l, t.ops.length ≤ 10
  ok : ∀ t ∈ l, ∀ o ∈ t.ops, OpOk o
  wl : ∀ t ∈ l, ∀ o ∈ t.ops, ∀ x ∈ o.list, (Lit.int .i64 x).wf = true
  sz : ∀ t ∈ l, ∀ o ∈ t.ops, o.list.length ≤ 100000
theorem notes_at {l : List MTxn} {x : MN} : ∀ n, x ∈ notes l n → x.1 < n ∧ x.2.1 < (l.getD x.1 default).ops.length ∧ x.2.2 = (l.getD x.1 default).ops.getD x.2.1 default
  | 0, h => by simp [notes] at h
  | n + 1, h => by
    have e : notes l (n + 1) = notes l n ++ notesT n (l.getD n default).ops := rfl
    rw [e, List.mem_append] at h
    rcases h with h | h
    · have := notes_at n h
      exact ⟨by omega, this.2⟩
    · unfold notesT at h
      obtain ⟨i, hi, rfl⟩ := List.mem_map.1 h
      exact ⟨by show n < n + 1; omega, List.mem_range.1 hi, rfl⟩
theorem notes_op {l : List MTxn} {x : MN} (h : x ∈ notes l l.length) : ∃ t ∈ l, x.2.2 ∈ t.ops := by
  obtain ⟨h1, h2, h3⟩ := notes_at _ h
  refine ⟨l.getD x.1 default, getD_mem l _ h1, ?_⟩
  rw [h3]
  exact getD_mem _ _ h2
theorem getD_len (l : List MTxn) (hten : ∀ t ∈ l, t.ops.length ≤ 10) (n : Nat) (h : n < l.length) : (l.getD n default).ops.length ≤ 10 := hten _ (getD_mem l n h)
section
variable {l : List MTxn} {s : ByteArray}
theorem Good.nlen (h : Good l) : (notes l l.length).length ≤ 10000 := by
  have := notes_len l h.ten l.length
  have := h.len
  omega
theorem Good.rlen (h : Good l) : (rdsN l s (notes l l.length)).length ≤ 10000 := Nat.le_trans (rds_len _ _ _) h.nlen
theorem Good.rop (h : Good l) {r : MRx} (hr : r ∈ rdsN l s (notes l l.length)) : (∀ x ∈ r.2.2, (Lit.int .i64 x).wf = true) ∧ r.2.2.length ≤ 100000 := by
  obtain ⟨x, hx, rfl⟩ := rds_mem hr
  obtain ⟨t, ht, ho⟩ := notes_op hx
  exact ⟨h.wl t ht _ ho, h.sz t ht _ ho⟩
theorem Good.trace (h : Good l) : (∀ x ∈ (knwN l s (notes l l.length)).ts, (Lit.int .i64 x).wf = true) ∧ (knwN l s (notes l l.length)).ts.length ≤ 100000 := by
  show (∀ x ∈ (longR (rdsN l s (notes l l.length))).2.2, _) ∧ (longR (rdsN l s (notes l l.length))).2.2.length ≤ _
  rcases long_in (rdsN l s (notes l l.length)) with e | e
  · rw [e]
    simp
  · exact h.rop e
theorem Good.src (h : Good l) (x : Int) : ((srcN l s (notes l l.length) x).getD noSrc).1 < 1000000 ∧ ((srcN l s (notes l l.length) x).getD noSrc).2.1 < 1000000 := by
  cases hc : srcN l s (notes l l.length) x with
  | none => exact ⟨by decide, by decide⟩
  | some y =>
    obtain ⟨z, hz, _, rfl⟩ := src_mem hc
    obtain ⟨h1, h2, _⟩ := notes_at _ hz
    have h3 := getD_len l h.ten _ h1
    have := h.len
    show z.1 < _ ∧ z.2.1 < _
    omega
end
/-- All that is wrong with the list s. -/
def anoN (l : List MTxn) (s : ByteArray) : List MAn := anoM (knwN l s (notes l l.length)) s (rdsN l s (notes l l.length))
theorem anoN_len {l : List MTxn} (h : Good l) (s : ByteArray) : (anoN l s).length ≤ 150000 := by
  have h1 := anoM_len (knwN l s (notes l l.length)) s (rdsN l s (notes l l.length))
  have h2 := h.rlen (s := s)
  have h3 := (h.trace (s := s)).2
  unfold anoN
  omega
/-- The anomalies of a look that lies in a block of its own. -/
theorem anoms_is (l : List MTxn) (hG : Good l) (s : ByteArray) (B kb sb n : Nat) (rv : Value) (R : List MRd) (t2 : Nat) (ta : Option Addr) (tc : Nat) (w : World) (h : Lg B w kb s rv R ((knwN l s (notes l l.length)).ti, t2, ta, (knwN l s (notes l l.length)).ts.length, tc) sb) (hR : Rds w R (rdsN l s (notes l l.length))) (hts : IntsIn Any w (.slice ta (knwN l s (notes l l.length)).ts.length tc) (knwN l s (notes l l.length)).ts) (hs : Sc w sb n (srcN l s (notes l l.length))) : Calls Try.prog 42 #[.pointer (some ⟨kb, 0, none⟩)] w fun e w' => ∃ v, e = .returned v ∧ w'.ownsRow (w.heap.size + 1) 85 9 v (anoN l s).length (ansC (anoN l s)) ∧ Below w.heap.size w w' :=
  anomalies_is (knwN l s (notes l l.length)) B kb sb n s rv R (rdsN l s (notes l l.length)) t2 ta tc w h hR (by have := hG.rlen (s := s); omega) hts hG.trace.1 hG.trace.2 (fun r hr => long_max hr) hs (fun x => hG.src x)
def tellN (l : List MTxn) (s : ByteArray) : Prop := kindN (notes l l.length) s = 1 ∧ uniqN (notes l l.length)
set_option maxHeartbeats 2000000 in
set_option maxRecDepth 100000 in
theorem look_un (B tb : Nat) (l : List MTxn) (s : ByteArray) (w : World) (h : Made B w tb l) (hs : s.size ≤ maxLen) (hn : ¬ tellN l s) : Calls Try.prog 41 #[.pointer (some ⟨tb, 0, none⟩), .string s] w fun e w' => e = .returned (.tuple #[noLook, .bool false]) ∧ Below w.heap.size w w' := by
  have KI : ∀ o, Hid (Calls Try.prog 65 #[.pointer (some ⟨tb, 0, none⟩), .string s] (w.alloc o) fun e w' => e = .returned (.int .i64 (kindN (notes l l.length) s)) ∧ w.alloc o = w') := fun o => tkind_is B _ tb l (h.later (below_box w o)) s hs
  have UN : ∀ o, Hid (Calls Try.prog 66 #[.pointer (some ⟨tb, 0, none⟩)] (w.alloc o) fun e w' => ∃ u : Bool, e = .returned (.bool u) ∧ (u = true ↔ uniqN (notes l l.length)) ∧ w.alloc o = w') := fun o => uniq_is B _ tb l (h.later (below_box w o))
  unfold tellN at hn
  clear h
  generalize notes l l.length = N at *
  by_cases hk : kindN N s = 1
  · have hu : ¬ uniqN N := fun c => hn ⟨hk, c⟩
    rw [hk] at KI
    have UF : ∀ o, Hid (Calls Try.prog 66 #[.pointer (some ⟨tb, 0, none⟩)] (w.alloc o) fun e w' => e = .returned (.bool false) ∧ w.alloc o = w') := fun o => (UN o).out.mono (fun e w' q => by
      obtain ⟨u, rfl, h2, h3⟩ := q
      cases u with
      | true => exact absurd (h2.1 rfl) hu
      | false => exact ⟨rfl, h3⟩)
    clear hn hk hu UN
    go_enter Try.func41, Try.ntmps41
    go_wp2_with (first | (go_at_call 65; refine (KI _).out.mono ?_; rintro e w' ⟨rfl, rfl⟩) | (go_at_call 66; refine (UF _).out.mono ?_; rintro e w' ⟨rfl, rfl⟩))
    exact bodyPost_ret (v := .tuple #[noLook, .bool false]) (by simp [results, Try.results41, go_sem]) rfl ⟨rfl, below_box w _⟩
  · have hkb : (kindN N s == (1 : Int)) = false := by simpa using hk
    generalize kindN N s = kk at *
    clear hn UN
    go_enter Try.func41, Try.ntmps41
    go_wp2_with (go_at_call 65; refine (KI _).out.mono ?_; rintro e w' ⟨rfl, rfl⟩)
    exact bodyPost_ret (v := .tuple #[noLook, .bool false]) (by simp [results, Try.results41, go_sem]) rfl ⟨rfl, below_box w _⟩
/-- Nothing is told of the key. -/
def Untold (v : Value) (s : ByteArray) (w : World) : Prop := ∀ W, Below w.heap.size w W → Calls Try.prog 41 #[v, .string s] W fun e w' => e = .returned (.tuple #[noLook, .bool false]) ∧ Below W.heap.size W w'
theorem Untold.later {v : Value} {s : ByteArray} {w W : World} (h : Untold v s w) (hb : Below w.heap.size w W) : Untold v s W := fun W' hb' => h W' (hb.trans (hb'.mono hb.size))
set_option maxHeartbeats 2000000 in
set_option maxRecDepth 100000 in
theorem trusted_un (v : Value) (s : ByteArray) (w : World) (h : Untold v s w) : Calls Try.prog 34 #[v, .string s] w fun e w' => e = .returned (.tuple #[noLook, .bool false]) ∧ Below w.heap.size w w' := by
  have HN : ∀ o, Hid (Untold v s (w.alloc o)) := fun o => h.later (below_box w o)
  clear h
  go_enter Try.func34, Try.ntmps34
  go_wp2_with (go_at_call 41; refine ((HN _).out _ (Below.refl _ _)).mono ?_; rintro e w1 ⟨rfl, b1⟩; obtain ⟨hs1, c0, fz, b1⟩ := box_later b1; have B1 := hid b1; have y0 := c0 0; have y1 := c0 1; have y2 := c0 2; have y3 := c0 3; have y4 := c0 4; have y5 := c0 5; simp only [List.getElem?_toArray, List.getElem?_cons_zero, List.getElem?_cons_succ] at y0 y1 y2 y3 y4 y5; clear b1 c0 HN)
  rw [Tx.setCell_self y0, Tx.setCell_self y1, Tx.setCell_self y2, Tx.setCell_self y3, Tx.setCell_self y4, Tx.setCell_self y5]
  have al : ∀ (i : Nat) (u : Value), w1.cell? ⟨w.heap.size, i, none⟩ = some u → (w1.alloc (.cells #[.string ⟨#[]⟩, .slice none 0 0, .int .i64 0, .int .i64 0, .slice none 0 0, .map none] 80)).cell? ⟨w.heap.size, i, none⟩ = some u := fun i u h => Lib.cell?_alloc_some _ h
  have z0 := al 0 _ y0
  have z1 := al 1 _ y1
  have z2 := al 2 _ y2
  have z3 := al 3 _ y3
  have z4 := al 4 _ y4
  have z5 := al 5 _ y5
  exact bodyPost_ret (v := .tuple #[noLook, .bool false]) (by simp [results, Try.results34, go_sem, z0, z1, z2, z3, z4, z5]) rfl ⟨rfl, B1.out.trans ((below_box w1 _).mono B1.out.size)⟩
set_option maxHeartbeats 2000000 in
set_option maxRecDepth 100000 in
theorem anom_un (v : Value) (s : ByteArray) (w : World) (h : Untold v s w) : Calls Try.prog 15 #[v, .string s] w fun e w' => e = .returned (.slice none 0 0) ∧ Below w.heap.size w w' := by
  have HN := hid h
  clear h
  go_enter Try.func15, Try.ntmps15
  go_wp2_with (go_at_call 41; refine (HN.out _ (Below.refl _ _)).mono ?_; rintro e w1 ⟨rfl, b1⟩; have B1 := hid b1; clear b1 HN)
  go_ret
  exact ⟨rfl, B1.out.trans ((below_box w1 _).mono B1.out.size)⟩
/-- No trace can be trusted. -/
def Untrue (v : Value) (s : ByteArray) (w : World) : Prop := ∀ W, Below w.heap.size w W → Calls Try.prog 34 #[v, .string s] W fun e w' => e = .returned (.tuple #[noLook, .bool false]) ∧ Below W.heap.size W w'
theorem Untold.untrue {v : Value} {s : ByteArray} {w : World} (h : Untold v s w) : Untrue v s w := fun W hb => trusted_un v s W (h.later hb)
set_option maxHeartbeats 2000000 in
set_option maxRecDepth 100000 in
theorem trace_un (v : Value) (s : ByteArray) (w : World) (h : Untrue v s w) : Calls Try.prog 12 #[v, .string s] w fun e w' => e = .returned (.tuple #[.slice none 0 0, .bool false]) ∧ Below w.heap.size w w' := by
  have HN := hid h
  clear h
  go_enter Try.func12, Try.ntmps12
  go_wp2_with (go_at_call 34; refine (HN.out _ (Below.refl _ _)).mono ?_; rintro e w1 ⟨rfl, b1⟩; have B1 := hid b1; clear b1 HN)
  go_ret2
  exact ⟨rfl, B1.out.trans ((below_box w1 _).mono B1.out.size)⟩
set_option maxHeartbeats 2000000 in
set_option maxRecDepth 100000 in
theorem edges_un (v : Value) (s : ByteArray) (w : World) (h : Untrue v s w) : Calls Try.prog 19 #[v, .string s] w fun e w' => e = .returned (.slice none 0 0) ∧ Below w.heap.size w w' := by
  have HN := hid h
  clear h
  go_enter Try.func19, Try.ntmps19
  go_wp2_with (go_at_call 34; refine (HN.out _ (Below.refl _ _)).mono ?_; rintro e w1 ⟨rfl, b1⟩; have B1 := hid b1; clear b1 HN)
  go_ret
  exact ⟨rfl, B1.out.trans ((below_box w1 _).mono B1.out.size)⟩
end Go.Proofs.Ytnfbcmnlloipiaa
namespace Go.Proofs.Ytnfbcmnlloipiaa
set_option linter.unusedVariables false
set_option linter.unusedSimpArgs false
open Go.RowKit Go.Lib Go.Maps
open Tx (MTxn OpsOwn RowsIn.cells)

/-- The look in its new block, and its anomalies. -/
theorem look_boxed {l : List MTxn} (hG : Good l) {s : ByteArray} {w0 w1 : World} {R : List MRd} {t2 : Nat} {ta : Option Addr} {tc n : Nat} {rv : Value} {sb : Nat} (ho : w1.ownsRow w0.heap.size 77 3 rv R.length (rdC R)) (hr : RdsD (fun b => w0.heap.size ≤ b) w1 R (rdsN l s (notes l l.length))) (hi : IntsIn (fun b => w0.heap.size ≤ b) w1 (.slice ta (knwN l s (notes l l.length)).ts.length tc) (knwN l s (notes l l.length)).ts) (hs : Sc w1 sb n (srcN l s (notes l l.length))) : Calls Try.prog 42 #[.pointer (some ⟨w1.heap.size, 0, none⟩)] (w1.alloc (.cells #[.string s, rv, .int .i64 (knwN l s (notes l l.length)).ti, .int .i64 t2, .slice ta (knwN l s (notes l l.length)).ts.length tc, .map (some sb)] 80)) fun e w' => ∃ v, e = .returned v ∧ w'.ownsRow (w1.heap.size + 1 + 1) 85 9 v (anoN l s).length (ansC (anoN l s)) ∧ Below (w1.alloc (.cells #[.string s, rv, .int .i64 (knwN l s (notes l l.length)).ti, .int .i64 t2, .slice ta (knwN l s (notes l l.length)).ts.length tc, .map (some sb)] 80)).heap.size (w1.alloc (.cells #[.string s, rv, .int .i64 (knwN l s (notes l l.length)).ti, .int .i64 t2, .slice ta (knwN l s (notes l l.length)).ts.length tc, .map (some sb)] 80)) w' := by
  have bb := below_box w1 (.cells #[.string s, rv, .int .i64 (knwN l s (notes l l.length)).ti, .int .i64 t2, .slice ta (knwN l s (notes l l.length)).ts.length tc, .map (some sb)] 80)
  obtain ⟨F, hF, _⟩ := id hs
  have h := anoms_is l hG s w0.heap.size w1.heap.size sb n rv R t2 ta tc _ ⟨heap_alloc_new w1 (.cells #[.string s, rv, .int .i64 (knwN l s (notes l l.length)).ti, .int .i64 t2, .slice ta (knwN l s (notes l l.length)).ts.length tc, .map (some sb)] 80), own_same ho (fun g hg => bb.block g (own_block ho hg).2.1)⟩ (hr.rds.later bb) ((hi.keep (fun _ _ _ => rfl) (fun _ _ _ => trivial)).below bb) (hs.same (bb.block sb hF.lt))
  have e : (w1.alloc (.cells #[.string s, rv, .int .i64 (knwN l s (notes l l.length)).ti, .int .i64 t2, .slice ta (knwN l s (notes l l.length)).ts.length tc, .map (some sb)] 80)).heap.size + 1 = w1.heap.size + 1 + 1 := by rw [alloc_size]
  rw [e] at h
  exact h
set_option maxHeartbeats 4000000 in
set_option maxRecDepth 100000 in
theorem anom_yes (B tb : Nat) (l : List MTxn) (s : ByteArray) (w : World) (h : Made B w tb l) (hs : s.size ≤ maxLen) (hG : Good l) (hT : tellN l s) : Calls Try.prog 15 #[.pointer (some ⟨tb, 0, none⟩), .string s] w fun e w' => ∃ v, e = .returned v ∧ w'.ownsRow w.heap.size 85 9 v (anoN l s).length (ansC (anoN l s)) ∧ Below w.heap.size w w' := by
  have LK := hid (look_yes B tb l s w h hs hG.len hG.ten hG.ok hG.wl hT.1 hT.2)
  have HG := hid hG
  clear h hs hG hT
  go_enter Try.func15, Try.ntmps15
  go_wp2_with (first
    | (go_at_call 41; refine LK.out.mono ?_; rintro e w1 ⟨R, t2, ta, tc, n, rv, sb, rfl, ho, hr, hi, hsc, hsb, b1⟩; obtain ⟨ra, rc, hrv⟩ := own_slice ho; subst hrv; have B1 := hid b1; have AN := hid (look_boxed (t2 := t2) HG.out ho hr hi hsc); clear b1 ho hr hi hsc LK)
    | (go_at_call 42; refine AN.out.mono ?_; rintro e w4 ⟨v, rfl, o4, b4⟩; have O4 := hid o4; have B4 := hid b4; clear o4 b4 AN))
  go_ret
  refine ⟨_, rfl, own_base O4.out (by have := B1.out.size; omega), B1.out.trans (((below_box w1 _).trans (B4.out.mono (by rw [alloc_size]; omega))).mono B1.out.size)⟩
set_option maxHeartbeats 4000000 in
set_option maxRecDepth 100000 in
theorem trusted_yes (B tb : Nat) (l : List MTxn) (s : ByteArray) (w : World) (h : Made B w tb l) (hs : s.size ≤ maxLen) (hG : Good l) (hT : tellN l s) (hA : harmB (anoN l s) = true) : Calls Try.prog 34 #[.pointer (some ⟨tb, 0, none⟩), .string s] w fun e w' => LookY l s w e w' := by
  have LK : ∀ o, Hid (Calls Try.prog 41 #[.pointer (some ⟨tb, 0, none⟩), .string s] (w.alloc o) fun e w' => LookY l s (w.alloc o) e w') := fun o => look_yes B tb l s _ (h.later (below_box w o)) hs hG.len hG.ten hG.ok hG.wl hT.1 hT.2
  have HG := hid hG
  have HA := hid hA
  clear h hs hG hT hA
  go_enter Try.func34, Try.ntmps34
  go_wp2_with (go_at_call 41; refine (LK _).out.mono ?_; rintro e w1 ⟨R, t2, ta, tc, n, rv, sb, rfl, ho, hr, hi, hsc, hsb, b1⟩; obtain ⟨ra, rc, hrv⟩ := own_slice ho; subst hrv; obtain ⟨hs1, y, fz, b1⟩ := box_later b1; have Y := hid y; have B1 := hid b1; have AN := hid (look_boxed (t2 := t2) HG.out ho hr hi hsc); have HO := hid ho; have HR := hid hr; have HI := hid hi; have HS := hid hsc; have HSB := hid hsb; clear b1 y ho hr hi hsc hsb LK)
  refine AN.out.mono ?_
  rintro e w4 ⟨v, rfl, o4, b4⟩
  have HM : Hid (Calls Try.prog 62 #[v] w4 fun e w' => e = .returned (.bool true) ∧ Below w4.heap.size w4 w') := by
    have h := harmless_is _ v (anoN l s) w4 o4 (by have := anoN_len HG.out s; omega)
    rw [HA.out] at h
    exact h
  obtain ⟨hs4, ky, kfz, b14⟩ := box_later b4
  have KY := hid ky
  have B4 := hid b14
  clear AN o4 b4 ky kfz b14
  go_wp2_with (go_at_call 62; refine HM.out.mono ?_; rintro e w5 ⟨rfl, b5⟩; have B5 := hid (B4.out.trans (b5.mono B4.out.size)); have n5 : ∀ i, w5.cell? ⟨w1.heap.size, i, none⟩ = w4.cell? ⟨w1.heap.size, i, none⟩ := (fun i => b5.cell (p := ⟨w1.heap.size, i, none⟩) hs4); have z0 := (n5 0).trans (KY.out 0); have z1 := (n5 1).trans (KY.out 1); have z2 := (n5 2).trans (KY.out 2); have z3 := (n5 3).trans (KY.out 3); have z4 := (n5 4).trans (KY.out 4); have z5 := (n5 5).trans (KY.out 5); have m5 : ∀ i, w5.cell? ⟨w.heap.size, i, none⟩ = w1.cell? ⟨w.heap.size, i, none⟩ := (fun i => B5.out.cell (p := ⟨w.heap.size, i, none⟩) hs1); have y0 := (m5 0).trans (Y.out 0); have y1 := (m5 1).trans (Y.out 1); have y2 := (m5 2).trans (Y.out 2); have y3 := (m5 3).trans (Y.out 3); have y4 := (m5 4).trans (Y.out 4); have y5 := (m5 5).trans (Y.out 5); simp only [List.getElem?_toArray, List.getElem?_cons_zero, List.getElem?_cons_succ] at y0 y1 y2 y3 y4 y5 z0 z1 z2 z3 z4 z5; have fz5 : ∀ i, w5.frozen? ⟨w.heap.size, i, none⟩ = false := (fun i => (B5.out.frozen (p := ⟨w.heap.size, i, none⟩) hs1).trans (fz i)); clear b5 n5 m5 KY Y HM)
  have hz : ∀ b, b ≠ w.heap.size → ∀ (i0 i1 i2 i3 i4 i5 : Value), ((((((w5.setCell ⟨w.heap.size, 0, none⟩ i0).setCell ⟨w.heap.size, 1, none⟩ i1).setCell ⟨w.heap.size, 2, none⟩ i2).setCell ⟨w.heap.size, 3, none⟩ i3).setCell ⟨w.heap.size, 4, none⟩ i4).setCell ⟨w.heap.size, 5, none⟩ i5).heap[b]? = w5.heap[b]? := fun b hb i0 i1 i2 i3 i4 i5 => by
    rw [set_ne hb, set_ne hb, set_ne hb, set_ne hb, set_ne hb, set_ne hb]
  have hsz : ∀ o, (w.alloc o).heap.size = w.heap.size + 1 := fun o => alloc_size w o
  have hw1 := HSB.out
  refine bodyPost_ret (v := .tuple #[lkV s (.slice ra R.length rc) (knwN l s (notes l l.length)).ti t2 ta (knwN l s (notes l l.length)).ts.length tc sb, .bool true]) (by simp [results, Try.results34, go_sem, y0, y1, y2, y3, y4, y5]) rfl ?_
  have hb5 : ∀ b, b < w1.heap.size → b ≠ w.heap.size → ∀ (i0 i1 i2 i3 i4 i5 : Value), ((((((w5.setCell ⟨w.heap.size, 0, none⟩ i0).setCell ⟨w.heap.size, 1, none⟩ i1).setCell ⟨w.heap.size, 2, none⟩ i2).setCell ⟨w.heap.size, 3, none⟩ i3).setCell ⟨w.heap.size, 4, none⟩ i4).setCell ⟨w.heap.size, 5, none⟩ i5).heap[b]? = w1.heap[b]? := fun b hb hn i0 i1 i2 i3 i4 i5 => (hz b hn _ _ _ _ _ _).trans (B5.out.block b hb)
  have BW : Below w.heap.size w w5 := B1.out.trans (B5.out.mono B1.out.size)
  obtain ⟨F, hF, _⟩ := id HS.out
  refine ⟨R, t2, ta, tc, n, .slice ra R.length rc, sb, rfl, ?_, HR.out.keep (fun b hD hb => hb5 b hb (by have : (w.alloc _).heap.size ≤ b := hD; rw [hsz] at this; omega) _ _ _ _ _ _) (fun b _ hD => by have : (w.alloc _).heap.size ≤ b := hD; rw [hsz] at this; show w.heap.size ≤ b; omega), HI.out.keep (fun b hD hb => hb5 b hb (by have : (w.alloc _).heap.size ≤ b := hD; rw [hsz] at this; omega) _ _ _ _ _ _) (fun b _ hD => by have : (w.alloc _).heap.size ≤ b := hD; rw [hsz] at this; show w.heap.size ≤ b; omega), HS.out.same (hb5 sb hF.lt (by rw [hsz] at hw1; omega) _ _ _ _ _ _), by rw [hsz] at hw1; omega, ?_⟩
  · refine own_base (own_same HO.out (fun g hg => ?_)) (by rw [hsz]; omega)
    have := own_block HO.out hg
    rw [hsz] at this
    exact hb5 g this.2.1 (by omega) _ _ _ _ _ _
  · exact (((((BW.setCell (Nat.le_refl _) _).setCell (Nat.le_refl _) _).setCell (Nat.le_refl _) _).setCell (Nat.le_refl _) _).setCell (Nat.le_refl _) _).setCell (Nat.le_refl _) _
set_option maxHeartbeats 4000000 in
set_option maxRecDepth 100000 in
theorem trusted_bad (B tb : Nat) (l : List MTxn) (s : ByteArray) (w : World) (h : Made B w tb l) (hs : s.size ≤ maxLen) (hG : Good l) (hT : tellN l s) (hA : harmB (anoN l s) = false) : Calls Try.prog 34 #[.pointer (some ⟨tb, 0, none⟩), .string s] w fun e w' => e = .returned (.tuple #[noLook, .bool false]) ∧ Below w.heap.size w w' := by
  have LK : ∀ o, Hid (Calls Try.prog 41 #[.pointer (some ⟨tb, 0, none⟩), .string s] (w.alloc o) fun e w' => LookY l s (w.alloc o) e w') := fun o => look_yes B tb l s _ (h.later (below_box w o)) hs hG.len hG.ten hG.ok hG.wl hT.1 hT.2
  have HG := hid hG
  have HA := hid hA
  clear h hs hG hT hA
  go_enter Try.func34, Try.ntmps34
  go_wp2_with (go_at_call 41; refine (LK _).out.mono ?_; rintro e w1 ⟨R, t2, ta, tc, n, rv, sb, rfl, ho, hr, hi, hsc, hsb, b1⟩; obtain ⟨ra, rc, hrv⟩ := own_slice ho; subst hrv; obtain ⟨hs1, y, fz, b1⟩ := box_later b1; have Y := hid y; have B1 := hid b1; have AN := hid (look_boxed (t2 := t2) HG.out ho hr hi hsc); clear b1 y ho hr hi hsc hsb LK)
  refine AN.out.mono ?_
  rintro e w4 ⟨v, rfl, o4, b4⟩
  have HM : Hid (Calls Try.prog 62 #[v] w4 fun e w' => e = .returned (.bool false) ∧ Below w4.heap.size w4 w') := by
    have h := harmless_is _ v (anoN l s) w4 o4 (by have := anoN_len HG.out s; omega)
    rw [HA.out] at h
    exact h
  obtain ⟨hs4, ky, kfz, b14⟩ := box_later b4
  have B4 := hid b14
  clear AN o4 b4 ky kfz b14
  go_wp2_with (go_at_call 62; refine HM.out.mono ?_; rintro e w5 ⟨rfl, b5⟩; have B5 := hid (B4.out.trans (b5.mono B4.out.size)); have m5 : ∀ i, w5.cell? ⟨w.heap.size, i, none⟩ = w1.cell? ⟨w.heap.size, i, none⟩ := (fun i => B5.out.cell (p := ⟨w.heap.size, i, none⟩) hs1); have y0 := (m5 0).trans (Y.out 0); have y1 := (m5 1).trans (Y.out 1); have y2 := (m5 2).trans (Y.out 2); have y3 := (m5 3).trans (Y.out 3); have y4 := (m5 4).trans (Y.out 4); have y5 := (m5 5).trans (Y.out 5); simp only [List.getElem?_toArray, List.getElem?_cons_zero, List.getElem?_cons_succ] at y0 y1 y2 y3 y4 y5; have fz5 : ∀ i, w5.frozen? ⟨w.heap.size, i, none⟩ = false := (fun i => (B5.out.frozen (p := ⟨w.heap.size, i, none⟩) hs1).trans (fz i)); clear b5 m5 Y HM)
  rw [Tx.setCell_self y0, Tx.setCell_self y1, Tx.setCell_self y2, Tx.setCell_self y3, Tx.setCell_self y4, Tx.setCell_self y5]
  exact bodyPost_ret (v := .tuple #[noLook, .bool false]) (by simp [results, Try.results34, go_sem, y0, y1, y2, y3, y4, y5]) rfl ⟨rfl, B1.out.trans (B5.out.mono B1.out.size)⟩
/-- What Trace answers. -/
def okN (l : List MTxn) (s : ByteArray) : Prop := tellN l s ∧ harmB (anoN l s) = true
theorem trusted_not (B tb : Nat) (l : List MTxn) (s : ByteArray) (w : World) (h : Made B w tb l) (hs : s.size ≤ maxLen) (hG : Good l) (hn : ¬ okN l s) : Untrue (.pointer (some ⟨tb, 0, none⟩)) s w := by
  intro W hb
  by_cases hT : tellN l s
  · refine trusted_bad B tb l s W (h.later hb) hs hG hT ?_
    cases hc : harmB (anoN l s) with
    | false => rfl
    | true => exact absurd ⟨hT, hc⟩ hn
  · exact trusted_un _ s W (fun W' hb' => look_un B tb l s W' ((h.later hb).later hb') hs hT)
set_option maxHeartbeats 2000000 in
set_option maxRecDepth 100000 in
theorem trace_yes (B tb : Nat) (l : List MTxn) (s : ByteArray) (w : World) (h : Made B w tb l) (hs : s.size ≤ maxLen) (hG : Good l) (ho : okN l s) : Calls Try.prog 12 #[.pointer (some ⟨tb, 0, none⟩), .string s] w fun e w' => ∃ ta tc, e = .returned (.tuple #[.slice ta (knwN l s (notes l l.length)).ts.length tc, .bool true]) ∧ IntsIn (fun b => w.heap.size ≤ b) w' (.slice ta (knwN l s (notes l l.length)).ts.length tc) (knwN l s (notes l l.length)).ts ∧ Below w.heap.size w w' := by
  have TR := hid (trusted_yes B tb l s w h hs hG ho.1 ho.2)
  clear h ho
  go_enter Try.func12, Try.ntmps12
  go_wp2_with (go_at_call 34; refine TR.out.mono ?_; rintro e w1 ⟨R, t2, ta, tc, n, rv, sb, rfl, ho, hr, hi, hsc, hsb, b1⟩; obtain ⟨ra, rc, hrv⟩ := own_slice ho; subst hrv; have B1 := hid b1; have HI := hid hi; clear b1 TR ho hr hi hsc hsb)
  go_ret2
  exact ⟨ta, tc, rfl, HI.out.keep (fun b _ hb => (below_box w1 _).block b hb) (fun _ _ h => h), B1.out.trans ((below_box w1 _).mono B1.out.size)⟩
end Go.Proofs.Ytnfbcmnlloipiaa
namespace Go.Proofs.Ytnfbcmnlloipiaa
set_option linter.unusedVariables false
set_option linter.unusedSimpArgs false
open Go.RowKit Go.Lib Go.Maps Go.ChangeMaps Go.MapKept Go.WideElems
open Tx (MTxn)

/-- As MapV.entry, and what is looked up once the entry is laid. -/
theorem MapV.entry2 {w : World} {P : Program} {k t e : TypeId} {b n : Nat} {f : Value → Option Value} (h : MapV w P k b n f) (K : WideMaps.KeyLaw P k) (ht : P.underlying t = some (.map k e)) {z : Value} (hz : ∀ u : World, (zeroValue e).run P u = .ok z u) (hn : n < maxLen) {key : Value} {kl : Lit} (hkey : keyOf P k key = some kl) :
    ∃ (st : Nat) (w1 : World), (Instr.mapEntry t (.map (some b)) key).run P w = .ok (.tuple #[(f key).getD z, goInt st]) w1 ∧ w.grownBy w1 (some b) ∧ w1.heap.size = w.heap.size ∧
      (∀ w2 : World, w2.heap[b]? = w1.heap[b]? → (Instr.lookup t (.map (some b)) key false).run P w2 = .ok ((f key).getD z) w2) ∧
      ∀ (w2 : World) (val : Value), w2.heap[b]? = w1.heap[b]? → ∃ w3 g, (Instr.entryStore t (.map (some b)) (goInt st) val).run P w2 = .ok () w3 ∧ IsPut f key val g ∧ MapV w3 P k b (n + 1) g ∧ w2.grownBy w3 (some b) := by
  have h' := h
  obtain ⟨st, w1, r1, g1, s1, r2⟩ := h.entry K ht hz hn hkey
  refine ⟨st, w1, r1, g1, s1, fun w2 hw2 => ?_, r2⟩
  obtain ⟨D, ⟨es, clock, hb, F, hs, hD⟩, hrest⟩ := h
  rcases K.find w hkey es.toList F.keys with ⟨h1, h2⟩ | ⟨j, e0, h1, h2, h3⟩
  · have hent : (Instr.mapEntry t (.map (some b)) key).run P w = .ok (.tuple #[z, goInt clock]) (setBlock w b (.map (es.push ⟨key, z, clock⟩) (clock + 1))) := by
      simp [Instr.mapEntry, run_underlying ht, MapKept.run_getObj_map hb, K.check w false hkey, h1, hz, MapKept.run_setObj_map _ hb, Result.andThen, setBlock]
    have e1 := Result.ok.inj (r1.symm.trans hent)
    have ev : (f key).getD z = z := by
      have e4 := Value.tuple.inj e1.1
      exact Option.some.inj (show some ((f key).getD z) = some z from congrArg (fun a : Array Value => a[0]?) e4)
    have hb2 : w2.heap[b]? = some (.map (es.push ⟨key, z, clock⟩) (clock + 1)) := by
      rw [hw2, e1.2]
      exact heap_setBlock_same hb _
    have hks : ∀ x ∈ (es.push ⟨key, z, clock⟩).toList, ∃ l, keyOf P k x.key = some l := fun x hx => by
      rw [Array.toList_push] at hx
      rcases List.mem_append.1 hx with hx | hx
      · exact F.keys x hx
      · obtain rfl : x = ⟨key, z, clock⟩ := by simpa using hx
        exact ⟨kl, hkey⟩
    rw [ev]
    rcases K.find w2 hkey (es.push ⟨key, z, clock⟩).toList hks with ⟨_, q2⟩ | ⟨j, e0, q1, q2, q3⟩
    · exact absurd rfl (q2 ⟨key, z, clock⟩ (by simp))
    · have ez : e0.val = z := by
        have hm : e0 ∈ (es.push ⟨key, z, clock⟩).toList := List.mem_of_getElem? q2
        rw [Array.toList_push] at hm
        rcases List.mem_append.1 hm with hm | hm
        · exact absurd q3 (h2 e0 hm)
        · obtain rfl : e0 = ⟨key, z, clock⟩ := by simpa using hm
          rfl
      have hj : (es.push ⟨key, z, clock⟩)[j]? = some e0 := by rw [← Array.getElem?_toList]; exact q2
      rw [Array.toList_push] at q1
      simp [Instr.lookup, run_underlying ht, MapKept.run_getObj_map hb2, K.check w2 _ hkey, q1, hj, hz, Result.andThen, ez]
  · have hj : es[j]? = some e0 := by simpa using h2
    have hsame : es.modify j (fun e => { e with key := key }) = es := by
      apply Array.ext'
      rw [Array.toList_modify, modify_eq_set _ _ _ _ h2]
      have : ({ e0 with key := key } : MapEntry) = e0 := by rw [← h3]
      rw [this]
      exact set_self _ _ _ h2
    have hent : (Instr.mapEntry t (.map (some b)) key).run P w = .ok (.tuple #[e0.val, goInt e0.born]) (setBlock w b (.map es clock)) := by
      simp [Instr.mapEntry, run_underlying ht, MapKept.run_getObj_map hb, K.check w false hkey, h1, hj, h3, K.stays w hkey, hsame, MapKept.run_setObj_map _ hb, Result.andThen, setBlock]
    have e1 := Result.ok.inj (r1.symm.trans hent)
    have hb2 : w2.heap[b]? = w.heap[b]? := by
      rw [hw2, e1.2, heap_setBlock_same hb, hb]
    exact (h'.same hb2).look (Keyed.of_law K) ht (hz w2) hkey
/-- A dependency: from, to, label, key, both values, and whether there was none. -/
abbrev MWy := Int × Int × Int × ByteArray × Int × Int × Bool
def whyV (y : MWy) : Value := .agg #[.int .i64 y.1, .int .i64 y.2.1, .int .i64 y.2.2.1, .string y.2.2.2.1, .int .i64 y.2.2.2.2.1, .int .i64 y.2.2.2.2.2.1, .bool y.2.2.2.2.2.2, .bool false]
def whyCs (y : MWy) : List Value := [.int .i64 y.1, .int .i64 y.2.1, .int .i64 y.2.2.1, .string y.2.2.2.1, .int .i64 y.2.2.2.2.1, .int .i64 y.2.2.2.2.2.1, .bool y.2.2.2.2.2.2, .bool false]
def whysC (l : List MWy) : List Value := l.flatMap whyCs
theorem whysC_snoc (l : List MWy) (y : MWy) : whysC (l ++ [y]) = whysC l ++ whyCs y := by simp [whysC]
theorem whyV_inj {x y : MWy} (h : whyV x = whyV y) : x = y := by
  obtain ⟨a, b, c, d, e, f, g⟩ := x
  obtain ⟨a', b', c', d', e', f', g'⟩ := y
  unfold whyV at h
  have e4 := Value.agg.inj h
  have t := congrArg Array.toList e4
  simp only [List.cons.injEq, Value.int.injEq, Value.string.injEq, Value.bool.injEq, true_and, and_true] at t
  obtain ⟨rfl, rfl, rfl, rfl, rfl, rfl, rfl⟩ := t
  rfl
/-- A dependency that a machine can hold. -/
def WyOk (y : MWy) : Prop := (Lit.int .i64 y.1).wf = true ∧ (Lit.int .i64 y.2.1).wf = true ∧ (Lit.int .i64 y.2.2.1).wf = true ∧ y.2.2.2.1.size ≤ maxLen ∧ (Lit.int .i64 y.2.2.2.2.1).wf = true ∧ (Lit.int .i64 y.2.2.2.2.2.1).wf = true
theorem lawW : WideMaps.KeyLaw Try.prog 40 := deep_law_gate Try.laidOut (of_decide_eq_true (by kernel_rfl)) (of_decide_eq_true (by kernel_rfl)) (by kernel_rfl) (by kernel_rfl)
theorem Try.cW : Try.prog.cellsOf 40 = 8 := by kernel_rfl
theorem Try.c4 : Try.prog.cellsOf 4 = 1 := by kernel_rfl
theorem Try.ktW : Try.prog.keyType 40 = true := by kernel_rfl
theorem lits4 (m : Nat) (b : Bool) : ∃ x, Try.prog.keyLits (m + 1) 4 [.bool b] = some [x] := by
  unfold Program.keyLits
  rw [Try.underlying4]
  exact ⟨_, rfl⟩
theorem key_why (y : MWy) (h : WyOk y) : ∃ kl, keyOf Try.prog 40 (whyV y) = some kl := by
  obtain ⟨a, b, c, d, e, f, g⟩ := y
  obtain ⟨h1, h2, h3, h4, h5, h6⟩ := h
  simp only at h1 h2 h3 h4 h5 h6
  unfold keyOf whyV
  rw [Try.underlying40]
  simp only [Try.ktW, Bool.true_and]
  have hf : (Value.agg #[.int .i64 a, .int .i64 b, .int .i64 c, .string d, .int .i64 e, .int .i64 f, .bool g, .bool false]).formed Try.prog 40 = true := by
    simp [Value.formed, Try.underlying40, Try.cW]
  rw [if_pos hf]
  obtain ⟨m, hm⟩ := Try.tys
  rw [hm]
  obtain ⟨x, hx⟩ := lits4 m g
  obtain ⟨x0, hx0⟩ := lits4 m false
  have hk : Try.prog.keyLits (m + 1 + 1) 40 (Value.agg #[.int .i64 a, .int .i64 b, .int .i64 c, .string d, .int .i64 e, .int .i64 f, .bool g, .bool false]).cells.toList = some [.int .i64 a, .int .i64 b, .int .i64 c, .string d.data.toList, .int .i64 e, .int .i64 f, x, x0] := by
    unfold Program.keyLits
    rw [Try.underlying40]
    simp [Value.cells]
    refine ⟨Try.cW.symm, ?_⟩
    rw [Try.c3, Try.c9, Try.c4]
    simp [lits3 m a h1, lits3 m b h2, lits3 m c h3, lits9 m d h4, lits3 m e h5, lits3 m f h6, hx, hx0]
  rw [hk]
  exact ⟨_, rfl⟩
/-- Dependencies, each once, none of a transaction on itself. -/
def eqW (x y : MWy) : Bool := decide (x.1 = y.1) && (decide (x.2.1 = y.2.1) && (decide (x.2.2.1 = y.2.2.1) && (decide (x.2.2.2.1 = y.2.2.2.1) && (decide (x.2.2.2.2.1 = y.2.2.2.2.1) && (decide (x.2.2.2.2.2.1 = y.2.2.2.2.2.1) && decide (x.2.2.2.2.2.2 = y.2.2.2.2.2.2))))))
theorem eqW_iff (x y : MWy) : eqW x y = true ↔ x = y := by
  obtain ⟨a, b, c, d, e, f, g⟩ := x
  obtain ⟨a', b', c', d', e', f', g'⟩ := y
  simp [eqW]
def inW (out : List MWy) (y : MWy) : Bool := out.any (eqW y)
theorem inW_iff (out : List MWy) (y : MWy) : inW out y = true ↔ y ∈ out := by
  unfold inW
  rw [List.any_eq_true]
  constructor
  · rintro ⟨x, hx, e⟩
    rw [(eqW_iff y x).1 e]
    exact hx
  · exact fun h => ⟨y, h, (eqW_iff y y).2 rfl⟩
def stepW (out : List MWy) (y : MWy) : List MWy := if (decide (y.1 = y.2.1) || inW out y) = true then out else out ++ [y]
def onceW (ws : List MWy) : List MWy := ws.foldl stepW []
theorem step_len (out : List MWy) (y : MWy) : (stepW out y).length ≤ out.length + 1 := by
  unfold stepW
  split
  · omega
  · simp
/-- What Edges holds: the row, and how often each was told. -/
structure Te (B lb mb hb N : Nat) (out : List MWy) (rv : Value) (c : MWy → Nat) (n : Nat) (w : World) : Prop where
  lbx : w.heap[lb]? = some (.cells #[rv] 38)
  own : w.ownsRow B 40 8 rv out.length (whysC out)
  mbx : w.heap[mb]? = some (.cells #[.map (some hb)] 97)
  map : ∃ F, MapV w Try.prog 40 hb n F ∧ ∀ y, (F (whyV y)).getD (.int .i64 0) = .int .i64 (c y)
  nN : n ≤ N
  cN : ∀ y, c y ≤ N
  oN : out.length ≤ N
  lB : lb < B
  mB : mb < B
  hB : hb < B
  sz : B ≤ w.heap.size
  hl : hb ≠ lb
  hm : hb ≠ mb
  lm : lb ≠ mb
theorem Te.later {B lb mb hb N : Nat} {out : List MWy} {rv : Value} {c : MWy → Nat} {n : Nat} {w w' : World} (h : Te B lb mb hb N out rv c n w) (hb' : Below w.heap.size w w') : Te B lb mb hb N out rv c n w' := by
  obtain ⟨F, m1, m2⟩ := h.map
  have hs := h.sz
  have a := h.lB
  have b := h.mB
  have d := h.hB
  exact ⟨(hb'.block _ (by omega)).trans h.lbx, own_same h.own (fun g hg => hb'.block g (own_block h.own hg).2.1), (hb'.block _ (by omega)).trans h.mbx, ⟨F, m1.same (hb'.block _ (by omega)), m2⟩, h.nN, h.cN, h.oN, h.lB, h.mB, h.hB, Nat.le_trans h.sz hb'.size, h.hl, h.hm, h.lm⟩
theorem zeroI3 (u : World) : (zeroValue 3).run Try.prog u = .ok (.int .i64 0) u := zeroI u
theorem Te.look {B lb mb hb N : Nat} {out : List MWy} {rv : Value} {c : MWy → Nat} {n : Nat} {w : World} (h : Te B lb mb hb N out rv c n w) (y : MWy) (hy : WyOk y) : (Instr.lookup 97 (.map (some hb)) (whyV y) false).run Try.prog w = .ok (.int .i64 (c y)) w := by
  obtain ⟨F, m1, m2⟩ := h.map
  obtain ⟨kl, hk⟩ := key_why y hy
  rw [← m2 y]
  exact m1.look (Keyed.of_law lawW) Try.underlying97 (zeroI w) hk
end Go.Proofs.Ytnfbcmnlloipiaa
