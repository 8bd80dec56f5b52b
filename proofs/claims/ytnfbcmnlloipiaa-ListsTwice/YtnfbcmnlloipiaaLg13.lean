/-
  The anomalies of a look.
-/
import Derived.Test.YtnfbcmnlloipiaaLg13a
namespace Go.Proofs.Ytnfbcmnlloipiaa
set_option linter.unusedVariables false
set_option linter.unusedSimpArgs false
open Go.RowKit Go.Lib Go.Maps

set_option maxHeartbeats 8000000 in
set_option maxRecDepth 100000 in
theorem anomalies_is (K : Knw) (B kb sb n : Nat) (s : ByteArray) (rv : Value) (R : List MRd) (RX : List MRx) (t2 : Nat) (ta : Option Addr) (tc : Nat) (w : World) (h : Lg B w kb s rv R (K.ti, t2, ta, K.ts.length, tc) sb) (hR : Rds w R RX) (hRl : RX.length ≤ 100000) (hts : IntsIn Any w (.slice ta K.ts.length tc) K.ts) (htw : ∀ x ∈ K.ts, (Lit.int .i64 x).wf = true) (htl : K.ts.length ≤ 100000) (hle : ∀ r ∈ RX, r.2.2.length ≤ K.ts.length) (hs : Sc w sb n K.f) (hfb : ∀ x, ((K.f x).getD noSrc).1 < 1000000 ∧ ((K.f x).getD noSrc).2.1 < 1000000) : Calls Try.prog 42 #[.pointer (some ⟨kb, 0, none⟩)] w fun e w' => ∃ v, e = .returned v ∧ w'.ownsRow (w.heap.size + 1) 85 9 v (anoM K s RX).length (ansC (anoM K s RX)) ∧ Below w.heap.size w w' := by
  obtain ⟨i0, hi0, hz0, hz1, hz2⟩ := Tx.info_parts Try.infoAn
  have HI0 := hid hi0
  have HZ0 := hid hz0
  have HZ1 := hid hz1
  have HZ2 := hid hz2
  clear hi0 hz0 hz1 hz2
  have H := hid h
  have HR := hid hR
  have HT := hid hts
  have HTW := hid htw
  have HLE := hid hle
  have HS := hid hs
  have HFB := hid hfb
  obtain ⟨ra, rc, hrv⟩ := own_slice h.own
  subst hrv
  have hkb : kb < w.heap.size := blt h.box
  have hlen := hR.len
  clear h hR hts htw hle hs hfb
  go_enter Try.func42, Try.ntmps42
  go_wp2_with fail
  have B0 : Hid (Below w.heap.size w (w.alloc (.cells (fns kb) 126))) := below_box w _
  have hs0 : (w.alloc (.cells (fns kb) 126)).heap.size = w.heap.size + 1 := by rw [alloc_size]
  have F0 : Hid (∀ i, (w.alloc (.cells (fns kb) 126)).cell? ⟨w.heap.size, i, none⟩ = (fns kb)[i]?) := fun i => new_cells w _ 126 i
  obtain ⟨W0, hW0⟩ : ∃ W0, w.alloc (.cells (fns kb) 126) = W0 := ⟨_, rfl⟩
  rw [hW0] at B0 hs0 F0
  rw [show w.alloc (.cells #[.func (.func 70) #[.pointer (some ⟨kb, 0, none⟩)] #[], .func (.func 71) #[.pointer (some ⟨kb, 0, none⟩)] #[], .func (.func 72) #[.pointer (some ⟨kb, 0, none⟩)] #[], .func (.func 73) #[.pointer (some ⟨kb, 0, none⟩)] #[], .func (.func 74) #[.pointer (some ⟨kb, 0, none⟩)] #[]] 126) = W0 from hW0]
  clear hW0
  go_loopg [3, 5, 7, 8, 9, 22] 5 (fun g l _ _ _ _ i wr => ∃ k : Nat, k ≤ 5 ∧ 5 - k ≤ g ∧ i = .int .i64 k ∧ Aside (Below W0.heap.size W0 wr) ∧ Aside (wr.ownsRow (w.heap.size + 1) 85 9 l (uptoA K s RX k 0).length (ansC (uptoA K s RX k 0))))
  case atStart => exact ⟨0, by omega, by omega, rfl, Below.refl _ _, (show Aside _ from by rw [uptoA_zero]; exact World.ownsRow_nil _ _ _ _)⟩
  case round =>
    obtain ⟨k, hk, hg, rfl, BW, OW⟩ := hrel
    have BR : Hid (Below w.heap.size w wr) := B0.out.trans (BW.out.mono B0.out.size)
    have c1 : wr.cell? ⟨kb, 1, none⟩ = some (.slice ra R.length rc) := by
      have q := (BR.out.block kb hkb).trans H.out.box
      have q2 := Lib.cell_of_heap q 1
      exact q2
    by_cases hlt : k < 5
    · have hlti : (k : Int) < 5 := by omega
      obtain ⟨fi, HF, cv⟩ : ∃ fi, Hid (fi = 70 + k) ∧ wr.cell? ⟨w.heap.size, k, none⟩ = some (.func (.func fi) #[.pointer (some ⟨kb, 0, none⟩)] #[]) := by
        have hc := (BW.out.cell (p := ⟨w.heap.size, k, none⟩) (by show w.heap.size < W0.heap.size; omega)).trans (F0.out k)
        have hk5 : k = 0 ∨ k = 1 ∨ k = 2 ∨ k = 3 ∨ k = 4 := by omega
        refine ⟨70 + k, rfl, ?_⟩
        rcases hk5 with rfl | rfl | rfl | rfl | rfl <;> exact hc
      go_wp2_with fail
      clear cv c1
      go_loopg [3, 7, 8, 9, 31] RX.length (fun g l _ _ _ i wi => ∃ q : Nat, q ≤ RX.length ∧ RX.length - q ≤ g ∧ i = .int .i64 q ∧ Aside (Below W0.heap.size W0 wi) ∧ Aside (wi.ownsRow (w.heap.size + 1) 85 9 l (uptoA K s RX k q).length (ansC (uptoA K s RX k q))))
      case atStart => exact ⟨0, by omega, by omega, rfl, BW.out, OW.out⟩
      case round =>
        obtain ⟨q, hq, hgq, rfl, BJ, OJ⟩ := hrel
        by_cases hq1 : q < RX.length
        · have hq1i : (q : Int) < R.length := by omega
          have BI : Hid (Below w.heap.size w wr) := B0.out.trans (BJ.out.mono B0.out.size)
          have OR := own_same (w' := wr) H.out.own (fun g hg => BI.out.block g (own_block H.out.own hg).2.1)
          obtain ⟨gb, rfl⟩ : ∃ gb, ra = some ⟨gb, 0, none⟩ := by
            rcases H.out.own.2 with ⟨_, hn⟩ | ⟨g, cap, cur, hv, _⟩
            · omega
            · injection hv with hv
              exact ⟨g, hv⟩
          obtain ⟨la, lc, hRq, hin, hwf⟩ := HR.out.at' q (by omega)
          have HN : Hid (uptoA K s RX k (q + 1) = uptoA K s RX k q ++ oneA K s k (RX.getD q default)) := uptoA_next K s RX k q hq1
          have hxl : (RX.getD q default).2.2.length ≤ K.ts.length := HLE.out _ (by simp [List.getD, List.getElem?_eq_getElem hq1])
          obtain ⟨r, hX⟩ : ∃ r, RX.getD q default = r := ⟨_, rfl⟩
          rw [hX] at hRq hin hwf HN hxl
          clear hX
          obtain ⟨ri, rj, xs⟩ := r
          simp only at hRq hin hwf hxl
          have ce : ∀ i u, i < 3 → (rdVs (R.getD q default))[i]? = some u → wr.cell? ⟨gb, q * 3 + i, none⟩ = some u := fun i u hi hu => by
            have qq := OR.cellAt (q * 3 + i) (by omega)
            exact qq.trans ((rdC_at R q i (by omega) hi).trans hu)
          rw [hRq] at ce
          have x0 := ce 0 _ (by omega) rfl
          have x1 := ce 1 _ (by omega) rfl
          have x2 := ce 2 _ (by omega) rfl
          simp only [Nat.add_zero] at x0 x1 x2
          have FI : Hid (∀ W, Below w.heap.size w W → Calls Try.prog fi #[.pointer (some ⟨kb, 0, none⟩), .agg #[.int .i64 ri, .int .i64 rj, .slice la xs.length lc]] W fun e w' => e = .returned (tellV (findM K ri rj xs k)) ∧ Below W.heap.size W w') := fun W hW => by
            obtain ⟨F, hF, _⟩ := id HS.out
            have bx := (hW.block kb hkb).trans H.out.box
            rw [HF.out]
            exact find_is K kb sb n ri rj la ta lc tc xs W (hin.below hW) hwf (HT.out.below hW) hxl (Lib.cell_of_heap bx 2) (Lib.cell_of_heap bx 4) (Lib.cell_of_heap bx 5) (HS.out.same (hW.block sb hF.lt)) k hlt
          clear ce OR hRq hin hwf
          cases hf : findM K ri rj xs k with
          | none =>
            rw [hf, show tellV none = .tuple #[an0, .bool false] from rfl] at FI
            have HO : Hid (uptoA K s RX k (q + 1) = uptoA K s RX k q) := by show _ = _; rw [HN.out]; simp [oneA, hf]
            clear hf HN
            have hk5 : fi = 70 ∨ fi = 71 ∨ fi = 72 ∨ fi = 73 ∨ fi = 74 := by have := HF.out; omega
            clear HF
            rcases hk5 with rfl | rfl | rfl | rfl | rfl
            all_goals
             go_wp2_with (refine (FI.out _ (BI.out.alloc BI.out.size _)).mono ?_; rintro e w1 ⟨rfl, b1⟩; have N1 : Hid (Below wr.heap.size wr w1) := (box_later b1).2.2.2; clear b1)
             go_roundg (RX.length - (q + 1))
             case measure => omega
             case rel =>
              have BN := BJ.out.trans (N1.out.mono BJ.out.size)
              refine ⟨q + 1, by omega, by omega, by go_num, BN.trans ((below_box w1 _).mono BN.size), (show Aside _ from ?_)⟩
              rw [HO.out]
              refine own_same OJ.out (fun g hg => ?_)
              have := (own_block OJ.out hg).2.1
              exact ((below_box w1 _).block g (Nat.lt_of_lt_of_le this N1.out.size)).trans (N1.out.block g this)
          | some a =>
            obtain ⟨kd, oth, x⟩ := a
            obtain ⟨va, vc, hva⟩ := own_slice OJ.out
            subst hva
            rw [hf, show tellV (some (kd, oth, x)) = .tuple #[anV kd oth x, .bool true] from rfl] at FI
            have HO : Hid (uptoA K s RX k (q + 1) = uptoA K s RX k q ++ [(kd, (ri : Int), (rj : Int), oth, s, x)]) := by show _ = _; rw [HN.out]; simp [oneA, hf]
            clear hf HN
            have hk5 : fi = 70 ∨ fi = 71 ∨ fi = 72 ∨ fi = 73 ∨ fi = 74 := by have := HF.out; omega
            clear HF
            rcases hk5 with rfl | rfl | rfl | rfl | rfl
            all_goals
             go_wp2_with (refine (FI.out _ (BI.out.alloc BI.out.size _)).mono ?_; rintro e w1 ⟨rfl, b1⟩; have BX := hid (box_later b1); have N1 : Hid (Below wr.heap.size wr w1) := BX.out.2.2.2; have p1 : ∀ o, (w1.alloc o).cell? ⟨wr.heap.size, 0, none⟩ = some (.int .i64 ri) := fun o => Lib.cell?_alloc_some _ (BX.out.2.1 0); have p2 : ∀ o, (w1.alloc o).cell? ⟨wr.heap.size, 1, none⟩ = some (.int .i64 rj) := fun o => Lib.cell?_alloc_some _ (BX.out.2.1 1); have p0 : ∀ o, (w1.alloc o).cell? ⟨kb, 0, none⟩ = some (.string s) := fun o => Lib.cell?_alloc_some _ ((World.cell?_of_block (a := ⟨kb, 0, none⟩) (N1.out.block kb (Nat.lt_of_lt_of_le hkb BI.out.size))).trans ((World.cell?_of_block (a := ⟨kb, 0, none⟩) (BI.out.block kb hkb)).trans (Lib.cell_of_heap H.out.box 0))); have hn1 : ¬ (wr.heap.size = w1.heap.size) := (by have := BX.out.1; omega); have hn2 : ¬ (kb = w1.heap.size) := (by have := BX.out.1; have := BI.out.size; omega); clear b1)
             have SZ : Hid ((((w1.alloc (.cells #[.int .i64 kd, .int .i64 ri, .int .i64 rj, .int .i64 oth, .string s, .int .i64 x, .slice none 0 0, .bool false, .int .i64 0] 85)).alloc (.cells #[.int .i64 kd, .int .i64 ri, .int .i64 rj, .int .i64 oth, .string s, .int .i64 x, .slice none 0 0, .bool false, .int .i64 0] 85)).drew).heap.size = w1.heap.size + 2) := by show ((w1.alloc _).alloc _).heap.size = _; rw [alloc_size, alloc_size]
             have B9 : Hid (∀ b, b < w1.heap.size → (((w1.alloc (.cells #[.int .i64 kd, .int .i64 ri, .int .i64 rj, .int .i64 oth, .string s, .int .i64 x, .slice none 0 0, .bool false, .int .i64 0] 85)).alloc (.cells #[.int .i64 kd, .int .i64 ri, .int .i64 rj, .int .i64 oth, .string s, .int .i64 x, .slice none 0 0, .bool false, .int .i64 0] 85)).drew).heap[b]? = w1.heap[b]?) := fun b hb => by show ((w1.alloc _).alloc _).heap[b]? = _; rw [alloc_at, if_neg (by rw [alloc_size]; omega), alloc_at, if_neg (by omega)]
             have NEW : Hid (∀ j u, ([.int .i64 kd, .int .i64 (ri : Int), .int .i64 (rj : Int), .int .i64 oth, .string s, .int .i64 x, .slice none 0 0, .bool false, .int .i64 (0 : Int)] : List Value)[j]? = some u → (((w1.alloc (.cells #[.int .i64 kd, .int .i64 ri, .int .i64 rj, .int .i64 oth, .string s, .int .i64 x, .slice none 0 0, .bool false, .int .i64 0] 85)).alloc (.cells #[.int .i64 kd, .int .i64 ri, .int .i64 rj, .int .i64 oth, .string s, .int .i64 x, .slice none 0 0, .bool false, .int .i64 0] 85)).drew).cell? ((⟨w1.heap.size + 1, 0, none⟩ : Addr).add j) = some u) := by
               have h := World.news_of_block (w := (((w1.alloc (.cells #[.int .i64 kd, .int .i64 ri, .int .i64 rj, .int .i64 oth, .string s, .int .i64 x, .slice none 0 0, .bool false, .int .i64 0] 85)).alloc (.cells #[.int .i64 kd, .int .i64 ri, .int .i64 rj, .int .i64 oth, .string s, .int .i64 x, .slice none 0 0, .bool false, .int .i64 0] 85)).drew)) (B := (w1.alloc (.cells #[.int .i64 kd, .int .i64 ri, .int .i64 rj, .int .i64 oth, .string s, .int .i64 x, .slice none 0 0, .bool false, .int .i64 0] 85)).heap.size) (cs := #[.int .i64 kd, .int .i64 ri, .int .i64 rj, .int .i64 oth, .string s, .int .i64 x, .slice none 0 0, .bool false, .int .i64 0]) (t := 85) (fr := (0, 0)) (heap_alloc_new (w1.alloc (.cells #[.int .i64 kd, .int .i64 ri, .int .i64 rj, .int .i64 oth, .string s, .int .i64 x, .slice none 0 0, .bool false, .int .i64 0] 85)) _)
               rw [alloc_size] at h
               exact h
             have ONE : Hid (∀ u ∈ ([.int .i64 kd, .int .i64 (ri : Int), .int .i64 (rj : Int), .int .i64 oth, .string s, .int .i64 x, .slice none 0 0, .bool false, .int .i64 (0 : Int)] : List Value), u.oneCell' = true) := by
               intro u hu
               simp only [List.mem_cons, List.not_mem_nil, or_false] at hu
               rcases hu with rfl | rfl | rfl | rfl | rfl | rfl | rfl | rfl | rfl <;> rfl
             have OX : Hid ((((w1.alloc (.cells #[.int .i64 kd, .int .i64 ri, .int .i64 rj, .int .i64 oth, .string s, .int .i64 x, .slice none 0 0, .bool false, .int .i64 0] 85)).alloc (.cells #[.int .i64 kd, .int .i64 ri, .int .i64 rj, .int .i64 oth, .string s, .int .i64 x, .slice none 0 0, .bool false, .int .i64 0] 85)).drew).ownsRow (w.heap.size + 1) 85 9 (.slice va (uptoA K s RX k q).length vc) (uptoA K s RX k q).length (ansC (uptoA K s RX k q))) := own_same OJ.out (fun g hg => (B9.out g (Nat.lt_of_lt_of_le (own_block OJ.out hg).2.1 N1.out.size)).trans (N1.out.block g (own_block OJ.out hg).2.1))
             have hul := uptoA_len K s RX k q (by omega)
             have hul2 : (uptoA K s RX k q).length ≤ 600000 := by
               have : k * RX.length ≤ 4 * 100000 := Nat.mul_le_mul (by omega) (by omega)
               omega
             have hw1 : w.heap.size + 1 ≤ w1.heap.size + 2 := by have := BI.out.size; have := N1.out.size; omega
             go_region
             go_wp2_with (at_builtin; refine wpList_append_lies _ rfl _ _ 33 rfl (w.heap.size + 1) 85 i0 _ 9 96 Try.underlying33 HI0.out HZ0.out HZ1.out HZ2.out rfl (by decide) (.slice va (uptoA K s RX k q).length vc) (uptoA K s RX k q).length (ansC (uptoA K s RX k q)) rfl OX.out ⟨w1.heap.size + 1, 0, none⟩ 1 1 [.int .i64 kd, .int .i64 (ri : Int), .int .i64 (rj : Int), .int .i64 oth, .string s, .int .i64 x, .slice none 0 0, .bool false, .int .i64 (0 : Int)] rfl rfl NEW.out ONE.out (by decide) (by unfold maxLen; omega) (by omega) (by rw [SZ.out]; omega) (w1.heap.size + 2) SZ.out ?_; intro g8 cap8 w8 hown8 hgrow8 hat8 hglt8; have O8 := hid hown8; have G8 := hid hgrow8; clear hown8 hgrow8 hat8 hglt8)
             go_roundg (RX.length - (q + 1))
             case measure => omega
             case rel =>
              have hz := BJ.out.size
              have hz1 := N1.out.size
              refine ⟨q + 1, by omega, by omega, by go_num, (show Aside _ from ⟨G8.out.os.trans (N1.out.os.trans BJ.out.os), G8.out.tape.trans (N1.out.tape.trans BJ.out.tape), G8.out.output.trans (N1.out.output.trans BJ.out.output), Nat.le_trans (by rw [SZ.out]; omega) G8.out.size, fun b hb => (G8.out.block b (by rw [SZ.out]; omega) (fun e => by have := (own_block OJ.out e.symm).1; omega)).trans ((B9.out b (by omega)).trans ((N1.out.block b (by omega)).trans (BJ.out.block b hb)))⟩), (show Aside _ from ?_)⟩
              rw [HO.out, List.length_append, ansC_snoc]
              exact O8.out
        · have hqe : q = RX.length := by omega
          have hq1i : ¬ (q : Int) < R.length := by omega
          go_wp2_with fail
          go_roundg (5 - (k + 1))
          case measure => omega
          case rel => exact ⟨k + 1, by omega, by omega, by go_num, BJ.out, (show Aside _ from by rw [← uptoA_row, ← hqe]; exact OJ.out)⟩
    · have hlti : ¬ (k : Int) < 5 := by omega
      have hk5 : k = 5 := by omega
      subst hk5
      obtain ⟨A, hA⟩ : ∃ A, uptoA K s RX 5 0 = A := ⟨_, rfl⟩
      have hul : A.length ≤ 500000 := by
        have := uptoA_len K s RX 5 0 (by omega)
        rw [hA] at this
        omega
      rw [hA] at OW
      have HA := hid hA
      obtain ⟨va, vc, hva⟩ := own_slice OW.out
      subst hva
      have HM : Hid (Calls Try.prog 62 #[.slice va A.length vc] wr fun e w' => e = .returned (.bool (harmB A)) ∧ Below wr.heap.size wr w') := harmless_is (w.heap.size + 1) _ A wr OW.out (by omega)
      obtain ⟨D, hD⟩ : ∃ D, disK K.f s K.ts K.ts.length = D := ⟨_, rfl⟩
      have hdl : D.length ≤ 100000 := by
        have := disK_len K.f s K.ts K.ts.length
        rw [hD] at this
        omega
      have DI : Hid (∀ W, Below w.heap.size w W → Calls Try.prog 75 #[.pointer (some ⟨kb, 0, none⟩)] W fun e w' => ∃ v, e = .returned v ∧ w'.ownsRow (W.heap.size + 1) 85 9 v D.length (ansC D) ∧ Below W.heap.size W w') := fun W hW => by
        obtain ⟨F, hF, _⟩ := id HS.out
        have bx := (hW.block kb hkb).trans H.out.box
        have h := disorder_is kb sb n K.f s ta tc K.ts W (HT.out.below hW) HTW.out htl (Lib.cell_of_heap bx 0) (Lib.cell_of_heap bx 4) (Lib.cell_of_heap bx 5) (HS.out.same (hW.block sb hF.lt)) HFB.out
        rw [hD] at h
        exact h
      have HD := hid hD
      clear hA hD
      cases hb : harmB A with
      | false =>
        rw [hb] at HM
        have HB := hid hb
        clear hb
        go_wp2_with (go_at_call 62; refine HM.out.mono ?_; rintro e w1 ⟨rfl, b1⟩; have N1 := hid b1; clear b1)
        go_ret
        refine ⟨_, rfl, (by unfold anoM; rw [HA.out, HD.out, HB.out]; simp only [Bool.false_eq_true, if_false, List.append_nil]; exact own_same OW.out (fun g hg => N1.out.block g (own_block OW.out hg).2.1)), BR.out.trans (N1.out.mono BR.out.size)⟩
      | true =>
        rw [hb] at HM
        have HB := hid hb
        clear hb
        by_cases hd0 : D.length = 0
        · have hd : D = [] := List.length_eq_zero_iff.1 hd0
          subst hd
          go_wp2_with (first
            | (go_at_call 62; refine HM.out.mono ?_; rintro e w1 ⟨rfl, b1⟩; have N1 := hid b1; clear b1)
            | (go_at_call 75; refine (DI.out _ (BR.out.trans (N1.out.mono BR.out.size))).mono ?_; rintro e w2 ⟨v2, rfl, o2, b2⟩; have O2 := hid o2; have N2 : Hid (Below wr.heap.size wr w2) := N1.out.trans (b2.mono N1.out.size); have OX : Hid (w2.ownsRow (w.heap.size + 1) 85 9 (.slice va A.length vc) A.length (ansC A)) := own_same OW.out (fun g hg => N2.out.block g (own_block OW.out hg).2.1); clear o2 b2)
            | (at_builtin; refine Lib.wpList_append_run_sl _ rfl _ _ 33 rfl (.slice va A.length vc) _ rfl rfl (append_zero _ _ 33 _ 85 i0 9 Try.underlying33 HI0.out _ _ _ _ _ OX.out O2.out) ?_))
          go_ret
          exact ⟨_, rfl, (by unfold anoM; rw [HA.out, HD.out, HB.out]; simp only [if_true, List.append_nil]; exact OX.out), BR.out.trans (N2.out.mono BR.out.size)⟩
        · go_wp2_with (first
            | (go_at_call 62; refine HM.out.mono ?_; rintro e w1 ⟨rfl, b1⟩; have N1 := hid b1; clear b1)
            | (go_at_call 75; refine (DI.out _ (BR.out.trans (N1.out.mono BR.out.size))).mono ?_; rintro e w2 ⟨v2, rfl, o2, b2⟩; obtain ⟨g2, c2, hv2⟩ : ∃ g2 c2, v2 = .slice (some ⟨g2, 0, none⟩) D.length c2 := own_some o2 hd0; subst hv2; have O2 := hid o2; have N2 : Hid (Below wr.heap.size wr w2) := N1.out.trans (b2.mono N1.out.size); have OX : Hid (w2.ownsRow (w.heap.size + 1) 85 9 (.slice va A.length vc) A.length (ansC A)) := own_same OW.out (fun g hg => N2.out.block g (own_block OW.out hg).2.1); have hw2 : w.heap.size + 1 ≤ w2.heap.size := (by have := N2.out.size; have := BW.out.size; omega); clear o2 b2)
            | (at_builtin; refine wpList_append_lies _ rfl _ _ 33 rfl (w.heap.size + 1) 85 i0 _ 9 96 Try.underlying33 HI0.out HZ0.out HZ1.out HZ2.out rfl (by decide) (.slice va A.length vc) A.length (ansC A) rfl OX.out ⟨g2, 0, none⟩ D.length c2 (ansC D) rfl (ansC_len D) (ans_news O2.out) (ansC_one D) (by omega) (by unfold maxLen; omega) (by omega) hw2 w2.heap.size rfl ?_; intro g8 cap8 w8 hown8 hgrow8 hat8 hglt8; have O8 := hid hown8; have G8 := hid hgrow8; clear hown8 hgrow8 hat8 hglt8))
          go_ret
          refine ⟨_, rfl, ?_, ?_⟩
          · unfold anoM
            rw [HA.out, HD.out, HB.out]
            simp only [if_true]
            rw [List.length_append, ansC_append]
            exact O8.out
          · have B2 := BR.out.trans (N2.out.mono BR.out.size)
            exact ⟨G8.out.os.trans B2.os, G8.out.tape.trans B2.tape, G8.out.output.trans B2.output, Nat.le_trans B2.size G8.out.size, fun b hb => (G8.out.block b (by have := B2.size; omega) (fun e => by have := (own_block OX.out e.symm).1; omega)).trans (B2.block b hb)⟩
end Go.Proofs.Ytnfbcmnlloipiaa
