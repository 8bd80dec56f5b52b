/-
  report.Same, of one report twice.
  ReportBack: a report's text is read as it.
  Scanning looks no further than a line: two texts that are alike from two places on up to a line's end have alike tokens there.
  Tokens at a place, where two texts are alike up to a line's end.
-/
import Derived.Test.YtkpomcimaofkkaaGreatDoorU32
import Derived.Test.YtkpomcimaofkkaaGreatDoorU34
import Derived.Test.YtkpomcimaofkkaaGreatDoorU1
namespace Go.Proofs.YtkpomcimaofkkaaGreatDoor.Rp
set_option linter.unusedVariables false
set_option linter.unusedSimpArgs false
open Go.RowKit Go.Lib

set_option maxHeartbeats 8000000 in
set_option maxRecDepth 100000 in
theorem sameAnR_is (a b : MA) (cv dv : Value) (w : World) (ha : WhysIn w cv a.cyc) (hb : WhysIn w dv b.cyc) :
    Calls Tryz.prog 49 #[.agg (encA a cv).toArray, .agg (encA b dv).toArray] w fun e w' => e = .returned (.bool (aEq a b)) ∧ Below w.heap.size w w' := by
  obtain ⟨a1, a2, a3, a4, a5, a6, ac, a8, a9⟩ := a
  obtain ⟨b1, b2, b3, b4, b5, b6, bc, b8, b9⟩ := b
  simp only [MA.cyc] at ha hb
  obtain ⟨pa, pc, rfl, pl, pk⟩ := Tx.RowsIn.cells ha (by omega)
  obtain ⟨qa, qc, rfl, ql, qk⟩ := Tx.RowsIn.cells hb (by omega)
  have HA := hid ha
  have HB := hid hb
  have PK := hid pk
  have QK := hid qk
  clear ha hb pk qk
  simp only [encA]
  cases h0 : (a1 == b1)
  · have HF : aEq (a1, a2, a3, a4, a5, a6, ac, a8, a9) (b1, b2, b3, b4, b5, b6, bc, b8, b9) = false := by simp only [aEq, h0, Bool.false_and, Bool.true_and, Bool.and_false]
    rw [HF]
    clear HF
    go_enter Tryz.func49, Tryz.ntmps49
    go_wp2
    go_ret
    exact ⟨rfl, below_2 _ _ _⟩
  cases h1 : (a2 == b2)
  · have HF : aEq (a1, a2, a3, a4, a5, a6, ac, a8, a9) (b1, b2, b3, b4, b5, b6, bc, b8, b9) = false := by simp only [aEq, h0, h1, Bool.false_and, Bool.true_and, Bool.and_false]
    rw [HF]
    clear HF
    go_enter Tryz.func49, Tryz.ntmps49
    go_wp2
    go_ret
    exact ⟨rfl, below_2 _ _ _⟩
  cases h2 : (a3 == b3)
  · have HF : aEq (a1, a2, a3, a4, a5, a6, ac, a8, a9) (b1, b2, b3, b4, b5, b6, bc, b8, b9) = false := by simp only [aEq, h0, h1, h2, Bool.false_and, Bool.true_and, Bool.and_false]
    rw [HF]
    clear HF
    go_enter Tryz.func49, Tryz.ntmps49
    go_wp2
    go_ret
    exact ⟨rfl, below_2 _ _ _⟩
  cases h3 : (a4 == b4)
  · have HF : aEq (a1, a2, a3, a4, a5, a6, ac, a8, a9) (b1, b2, b3, b4, b5, b6, bc, b8, b9) = false := by simp only [aEq, h0, h1, h2, h3, Bool.false_and, Bool.true_and, Bool.and_false]
    rw [HF]
    clear HF
    go_enter Tryz.func49, Tryz.ntmps49
    go_wp2
    go_ret
    exact ⟨rfl, below_2 _ _ _⟩
  cases h4 : (a5.toList == b5.toList)
  · have HF : aEq (a1, a2, a3, a4, a5, a6, ac, a8, a9) (b1, b2, b3, b4, b5, b6, bc, b8, b9) = false := by simp only [aEq, h0, h1, h2, h3, h4, Bool.false_and, Bool.true_and, Bool.and_false]
    rw [HF]
    clear HF
    go_enter Tryz.func49, Tryz.ntmps49
    go_wp2
    go_ret
    exact ⟨rfl, below_2 _ _ _⟩
  cases h5 : (a6 == b6)
  · have HF : aEq (a1, a2, a3, a4, a5, a6, ac, a8, a9) (b1, b2, b3, b4, b5, b6, bc, b8, b9) = false := by simp only [aEq, h0, h1, h2, h3, h4, h5, Bool.false_and, Bool.true_and, Bool.and_false]
    rw [HF]
    clear HF
    go_enter Tryz.func49, Tryz.ntmps49
    go_wp2
    go_ret
    exact ⟨rfl, below_2 _ _ _⟩
  cases h6 : (a8 == b8)
  · have HF : aEq (a1, a2, a3, a4, a5, a6, ac, a8, a9) (b1, b2, b3, b4, b5, b6, bc, b8, b9) = false := by simp only [aEq, h0, h1, h2, h3, h4, h5, h6, Bool.false_and, Bool.true_and, Bool.and_false]
    rw [HF]
    clear HF
    go_enter Tryz.func49, Tryz.ntmps49
    go_wp2
    go_ret
    exact ⟨rfl, below_2 _ _ _⟩
  cases h7 : (a9 == b9)
  · have HF : aEq (a1, a2, a3, a4, a5, a6, ac, a8, a9) (b1, b2, b3, b4, b5, b6, bc, b8, b9) = false := by simp only [aEq, h0, h1, h2, h3, h4, h5, h6, h7, Bool.false_and, Bool.true_and, Bool.and_false]
    rw [HF]
    clear HF
    go_enter Tryz.func49, Tryz.ntmps49
    go_wp2
    go_ret
    exact ⟨rfl, below_2 _ _ _⟩
  have HT : Hid (aEq (a1, a2, a3, a4, a5, a6, ac, a8, a9) (b1, b2, b3, b4, b5, b6, bc, b8, b9) = whysEq ac bc) := by show _ = _; simp only [aEq, h0, h1, h2, h3, h4, h5, h6, h7, Bool.true_and]
  go_enter Tryz.func49, Tryz.ntmps49
  go_wp2_with (go_at_call 88; refine (eqWhy_any _ _ ac bc _ (HA.out.later (below_2 _ _ _)) (HB.out.later (below_2 _ _ _))).mono ?_; rintro e w1 ⟨rfl, hb1⟩; have B1 := hid hb1; clear hb1)
  go_ret
  exact ⟨by rw [HT.out]; rfl, (below_2 _ _ _).trans (B1.out.mono (below_2 _ _ _).size)⟩
set_option maxHeartbeats 8000000 in
set_option maxRecDepth 100000 in
theorem eqFAR_walk (a1 a2 : Option Addr) (c1 c2 n : Nat) (xs ys : List MA) (w : World) (hx : xs.length = n) (hy : ys.length = n) (hbig : n * 96 ≤ 140737488355328)
    (h1 : Tx.RowCells 9 (AnRow w) w a1 xs n) (h2 : Tx.RowCells 9 (AnRow w) w a2 ys n) :
    Calls Tryz.prog 48 #[.slice a1 n c1, .slice a2 n c2, .func (.func 49) #[] #[]] w fun e w' => e = .returned (.bool (ansEq xs ys)) ∧ Below w.heap.size w w' := by
  have HX : Hid (xs.length = n) := hx
  have HY : Hid (ys.length = n) := hy
  have H1 := hid h1
  have H2 := hid h2
  clear hx hy h1 h2
  go_enter Tryz.func48, Tryz.ntmps48
  go_wp2
  go_loopg [7, 8, 9, 17] n (fun g _ _ _ i wr => ∃ k : Nat, k ≤ n ∧ n - k ≤ g ∧ i = .int .i64 k ∧ Aside (Below w.heap.size w wr) ∧ Aside (∀ j, j < k → aEq (xs.getD j default) (ys.getD j default) = true))
  case atStart => exact ⟨0, Nat.zero_le _, by omega, rfl, Below.refl _ _, fun j hj => absurd hj (Nat.not_lt_zero _)⟩
  case round =>
    obtain ⟨k, hk, hg, rfl, BK, A⟩ := hrel
    by_cases hlt : k < n
    · have hlti : (k : Int) < (n : Int) := by omega
      have hk0 : (0 : Int) ≤ (k : Int) := by omega
      obtain ⟨g1, o1, cs1, rfl, -, -, ⟨cv, e1, hw1⟩, hca⟩ := H1.out k hlt
      obtain ⟨g2, o2, cs2, rfl, -, -, ⟨dv, e2, hw2⟩, hcb⟩ := H2.out k hlt
      have W1 := hid hw1
      have W2 := hid hw2
      generalize hX : xs.getD k default = X at *
      generalize hY : ys.getD k default = Y at *
      have HX' : Hid (xs.getD k default = X) := hX
      have HY' : Hid (ys.getD k default = Y) := hY
      clear hX hY hw1 hw2
      obtain ⟨Q, hQ⟩ : ∃ Q, aEq X Y = Q := ⟨_, rfl⟩
      have HQ := hid hQ
      clear hQ
      obtain ⟨X1, X2, X3, X4, X5, X6, XC, X8, X9⟩ := X
      obtain ⟨Y1, Y2, Y3, Y4, Y5, Y6, YC, Y8, Y9⟩ := Y
      obtain ⟨pa, pc, hcv, -⟩ := id W1.out
      obtain ⟨qa, qc, hdv, -⟩ := id W2.out
      subst hcv
      subst hdv
      simp only [encA, MA.cyc] at e1 e2
      subst e1 e2
      have u0 := below_cell BK.out (hca 0 _ rfl)
      have u1 := below_cell BK.out (hca 1 _ rfl)
      have u2 := below_cell BK.out (hca 2 _ rfl)
      have u3 := below_cell BK.out (hca 3 _ rfl)
      have u4 := below_cell BK.out (hca 4 _ rfl)
      have u5 := below_cell BK.out (hca 5 _ rfl)
      have u6 := below_cell BK.out (hca 6 _ rfl)
      have u7 := below_cell BK.out (hca 7 _ rfl)
      have u8 := below_cell BK.out (hca 8 _ rfl)
      rw [Nat.add_zero] at u0
      have v0 := below_cell BK.out (hcb 0 _ rfl)
      have v1 := below_cell BK.out (hcb 1 _ rfl)
      have v2 := below_cell BK.out (hcb 2 _ rfl)
      have v3 := below_cell BK.out (hcb 3 _ rfl)
      have v4 := below_cell BK.out (hcb 4 _ rfl)
      have v5 := below_cell BK.out (hcb 5 _ rfl)
      have v6 := below_cell BK.out (hcb 6 _ rfl)
      have v7 := below_cell BK.out (hcb 7 _ rfl)
      have v8 := below_cell BK.out (hcb 8 _ rfl)
      rw [Nat.add_zero] at v0
      clear hca hcb
      have hgl1 : g1 < wr.heap.size := World.block_lt_of_cell? _ _ u0
      have hgl2 : g2 < wr.heap.size := World.block_lt_of_cell? _ _ v0
      have SA : Hid (∀ W, Below wr.heap.size wr W → Calls Tryz.prog 49 #[(.agg #[.int .i64 X1, .int .i64 X2, .int .i64 X3, .int .i64 X4, .string X5, .int .i64 X6, .slice pa XC.length pc, .bool X8, .int .i64 X9]), (.agg #[.int .i64 Y1, .int .i64 Y2, .int .i64 Y3, .int .i64 Y4, .string Y5, .int .i64 Y6, .slice qa YC.length qc, .bool Y8, .int .i64 Y9])] W fun e w' => e = .returned (.bool Q) ∧ Below W.heap.size W w') := fun W hb => by
        have := sameAnR_is (X1, X2, X3, X4, X5, X6, XC, X8, X9) (Y1, Y2, Y3, Y4, Y5, Y6, YC, Y8, Y9) _ _ W (W1.out.later (BK.out.trans (hb.mono BK.out.size))) (W2.out.later (BK.out.trans (hb.mono BK.out.size)))
        rw [HQ.out] at this
        exact this
      cases Q with
      | true =>
        go_wp2_with (go_at_call 49; refine (SA.out _ (below_2 _ _ _)).mono ?_; rintro e w1 ⟨rfl, hb1⟩; have B1 := hid hb1; clear hb1)
        go_roundg (n - (k + 1))
        case measure => omega
        case rel =>
          refine ⟨k + 1, by omega, by omega, by go_num, (BK.out.trans (((below_2 wr _ _).trans (B1.out.mono (below_2 wr _ _).size)).mono BK.out.size)), (show Aside _ from fun j hj => ?_)⟩
          by_cases e : j = k
          · subst e; rw [HX'.out, HY'.out]; exact HQ.out
          · exact A.out j (by omega)
      | false =>
        go_wp2_with (go_at_call 49; refine (SA.out _ (below_2 _ _ _)).mono ?_; rintro e w1 ⟨rfl, hb1⟩; have B1 := hid hb1; clear hb1)
        go_ret
        refine ⟨?_, (BK.out.trans (((below_2 wr _ _).trans (B1.out.mono (below_2 wr _ _).size)).mono BK.out.size))⟩
        rw [show ansEq xs ys = false from allEq_miss _ xs ys k (by rw [HX.out]; exact hlt) (by rw [HX'.out, HY'.out]; exact HQ.out)]
        rfl
    · go_wp2
      go_ret
      refine ⟨?_, BK.out⟩
      rw [show ansEq xs ys = true from allEq_hit _ xs ys (by rw [HX.out, HY.out]) (fun j hj => A.out j (by rw [HX.out] at hj; omega))]
      rfl

theorem eqFAR_lens (a1 a2 : Option Addr) (c1 c2 n m : Nat) (w : World) (hnm : n ≠ m) :
    Calls Tryz.prog 48 #[.slice a1 n c1, .slice a2 m c2, .func (.func 49) #[] #[]] w fun e w' => e = .returned (.bool false) ∧ w' = w := by
  have hne : ((n : Int) != (m : Int)) = true := by rw [bne_iff_ne]; omega
  go_enter Tryz.func48, Tryz.ntmps48
  go_wp2
  go_ret
  exact ⟨rfl, rfl⟩
theorem eqFAR_any (v u : Value) (xs ys : List MA) (w : World) (h1 : AnsIn w v xs) (h2 : AnsIn w u ys) :
    Calls Tryz.prog 48 #[v, u, .func (.func 49) #[] #[]] w fun e w' => e = .returned (.bool (ansEq xs ys)) ∧ Below w.heap.size w w' := by
  obtain ⟨a1, c1, rfl, l1, k1⟩ := Tx.RowsIn.cells h1 (by omega)
  obtain ⟨a2, c2, rfl, l2, k2⟩ := Tx.RowsIn.cells h2 (by omega)
  by_cases h : xs.length = ys.length
  · rw [← h] at k2 ⊢
    exact eqFAR_walk a1 a2 c1 c2 xs.length xs ys w rfl h.symm l1.1 k1 k2
  · rw [show ansEq xs ys = false from allEq_len _ xs ys h]
    exact (eqFAR_lens a1 a2 c1 c2 _ _ w h).mono fun e w' ⟨he, hw⟩ => ⟨he, by rw [hw]; exact Below.refl _ _⟩
set_option maxHeartbeats 8000000 in
set_option maxRecDepth 100000 in
/-- report.Same, of one report twice. -/
theorem rpSame_is (r : MR) (v u : Value) (w : World) (h1 : RepIn w v r) (h2 : RepIn w u r) :
    Calls Tryz.prog 13 #[v, u] w fun e w' => e = .returned (.bool true) ∧ Below w.heap.size w w' := by
  obtain ⟨t, b, al, x, y, os⟩ := r
  obtain ⟨av, ov, rfl, ha, ho⟩ := h1
  obtain ⟨bv, pv, rfl, hb, hp⟩ := h2
  obtain ⟨oa, oc, rfl, ol, ok⟩ := ho.cells
  obtain ⟨pa, pc, rfl, pl, pk⟩ := hp.cells
  obtain ⟨aa, ac, rfl, al1, ak⟩ := Tx.RowsIn.cells ha (by omega)
  obtain ⟨ba, bc, rfl, bl1, bk⟩ := Tx.RowsIn.cells hb (by omega)
  simp only [encR]
  have E0 : (t == t) = true := by simp
  have E1 : (b == b) = true := by simp
  have E2 : (x == x) = true := by simp
  have E3 : (y == y) = true := by simp
  have HA := hid ha
  have HB := hid hb
  have OK := hid ok
  have PK := hid pk
  have OL := hid ol
  clear ha hb ok pk ak bk ho hp ol pl al1 bl1
  have S32 : Hid (∀ W, Below w.heap.size w W → Calls Tryz.prog 32 #[.slice oa os.length oc, .slice pa os.length pc] W fun e w' => e = .returned (.bool true) ∧ Below W.heap.size W w') := fun W hW => by
    refine (slicesEqual_cells oa pa oc pc os.length os.length os os W rfl rfl (by have h := OL.out.1; dsimp only at h; omega) (OK.out.later hW) (PK.out.later hW)).mono ?_
    rintro e w' ⟨he, q, hq⟩
    refine ⟨by rw [he]; simp, ?_⟩
    rw [hq]
    exact below_drewN (Below.refl _ _) q
  have S33 : Hid (∀ W, Below w.heap.size w W → Calls Tryz.prog 48 #[.slice aa al.length ac, .slice ba al.length bc, .func (.func 49) #[] #[]] W fun e w' => e = .returned (.bool true) ∧ Below W.heap.size W w') := fun W hW => by
    have h := eqFAR_any _ _ al al W (ansIn_later HA.out hW) (ansIn_later HB.out hW)
    rw [show ansEq al al = true from allEq_refl _ aEq_refl al] at h
    exact h
  clear HA HB OK PK OL
  go_enter Tryz.func13, Tryz.ntmps13
  go_wp2_with fail
  go_at_call 32
  refine (S32.out _ (below_2 _ _ _)).mono ?_
  rintro e w1 ⟨rfl, hb1⟩
  have B1 : Hid (Below w.heap.size w w1) := (below_2 w _ _).trans (hb1.mono (below_2 w _ _).size)
  have L0 := ((box_new w #[.int .i64 t, .bool b, .slice aa al.length ac, .int .i64 x, .int .i64 y, .slice oa os.length oc] 25).later (below_box _ (.cells #[.int .i64 t, .bool b, .slice ba al.length bc, .int .i64 x, .int .i64 y, .slice pa os.length pc] 25))).later hb1
  have L1 := (box_new (w.alloc (.cells #[.int .i64 t, .bool b, .slice aa al.length ac, .int .i64 x, .int .i64 y, .slice oa os.length oc] 25)) #[.int .i64 t, .bool b, .slice ba al.length bc, .int .i64 x, .int .i64 y, .slice pa os.length pc] 25).later hb1
  rw [show (w.alloc (.cells #[.int .i64 t, .bool b, .slice aa al.length ac, .int .i64 x, .int .i64 y, .slice oa os.length oc] 25)).heap.size = w.heap.size + 1 by simp] at L1
  obtain ⟨-, -, k2, -, -, -⟩ := L0.cells
  obtain ⟨-, -, m2, -, -, -⟩ := L1.cells
  clear L0 L1 hb1
  go_wp2_with fail
  go_at_call 48
  refine (S33.out _ B1.out).mono ?_
  rintro e w2 ⟨rfl, hb2⟩
  have B2 : Hid (Below w.heap.size w w2) := B1.out.trans (hb2.mono B1.out.size)
  clear hb2
  go_wp2_with fail
  go_ret
  exact ⟨rfl, B2.out⟩
end Go.Proofs.YtkpomcimaofkkaaGreatDoor.Rp
namespace Go.Proofs.YtkpomcimaofkkaaGreatDoor.Rp
set_option linter.unusedVariables false
set_option linter.unusedSimpArgs false
open Go.RowKit Go.Lib

set_option maxHeartbeats 2000000 in
set_option maxRecDepth 100000 in
/-- A report that may not be is not printed. -/
theorem dprint_not (t : Int) (u : Bool) (aa : Option Addr) (al : List MA) (ac : Nat) (e x : Int) (oa : Option Addr) (os : List Int) (oc : Nat) (w : World) (hal : AnsIn w (.slice aa al.length ac) al) (hr : canR (t, u, al, e, x, os) = false) (hsm : ∀ a ∈ al, SmA a) :
    Calls Tryz.prog 12 #[.agg #[.int .i64 t, .bool u, .slice aa al.length ac, .int .i64 e, .int .i64 x, .slice oa os.length oc]] w fun en w' => en = .returned (.tuple #[.string ⟨#[]⟩, .int .i64 1]) ∧ Below w.heap.size w w' := by
  have BX := box_new w #[.int .i64 t, .bool u, .slice aa al.length ac, .int .i64 e, .int .i64 x, .slice oa os.length oc] 25
  have A1 := hid (below_box w (.cells #[.int .i64 t, .bool u, .slice aa al.length ac, .int .i64 e, .int .i64 x, .slice oa os.length oc] 25))
  obtain ⟨W, hW⟩ : ∃ W, w.alloc (.cells #[.int .i64 t, .bool u, .slice aa al.length ac, .int .i64 e, .int .i64 x, .slice oa os.length oc] 25) = W := ⟨_, rfl⟩
  obtain ⟨o, ho⟩ : ∃ o, w.heap.size = o := ⟨_, rfl⟩
  have BW1 : Hid (Below w.heap.size w W) := by rw [← hW]; exact A1.out
  rw [hW, ho] at BX
  obtain ⟨c0, c1, c2, c3, c4, c5⟩ := BX.cells
  have CAN := hid (dcan_is (S := All) t u aa al ac e x oa os oc W (ansIn_later hal BW1.out) hsm)
  rw [hr] at CAN
  clear BX A1 hal hr hsm
  go_enter Tryz.func12, Tryz.ntmps12
  go_wp2_with fail
  go_at_call 30
  refine CAN.out.mono ?_
  rintro en w1 ⟨rfl, b1⟩
  have B1 : Hid (Below w.heap.size w w1) := BW1.out.trans (b1.mono BW1.out.size)
  clear b1 hW ho CAN c0 c1 c2 c3 c4 c5
  go_wp2_with fail
  refine bodyPost_ret (results_tmp2 rfl _ _ _) rfl ⟨rfl, B1.out⟩
/-- The program's Print and the document's print one text, or none. -/
theorem print_both (t : Int) (u : Bool) (aa : Option Addr) (al : List MA) (ac : Nat) (e x : Int) (oa : Option Addr) (os : List Int) (oc : Nat) (w : World) (ha : AnsIn w (.slice aa al.length ac) al) (ho : IntsIn All w (.slice oa os.length oc) os) (hi : InR (t, u, al, e, x, os)) (hsm : SmR (t, u, al, e, x, os)) (hT : Lib.TabIs Tryz.prog w "internal/strconv.uint64pow10" .u64 Lib.pow10Tab) (hN : NamesAt w) :
    ∃ (s : ByteArray) (n : Int), ((canR (t, u, al, e, x, os) = false ∧ n = 1 ∧ s = ⟨#[]⟩) ∨ (canR (t, u, al, e, x, os) = true ∧ n = 0 ∧ s.data.toList = printB (t, u, al, e, x, os))) ∧
      Hid (∀ V, Below w.heap.size w V → Calls Tryz.prog 11 #[.agg #[.int .i64 t, .bool u, .slice aa al.length ac, .int .i64 e, .int .i64 x, .slice oa os.length oc]] V fun en w' => en = .returned (.tuple #[.string s, .int .i64 n]) ∧ Below V.heap.size V w') ∧
      Hid (∀ V, Below w.heap.size w V → Calls Tryz.prog 12 #[.agg #[.int .i64 t, .bool u, .slice aa al.length ac, .int .i64 e, .int .i64 x, .slice oa os.length oc]] V fun en w' => en = .returned (.tuple #[.string s, .int .i64 n]) ∧ Below V.heap.size V w') := by
  have PW : ∀ V, Below w.heap.size w V → Pow V.heap.size V := fun V hb => Pow.later (Lib.tabBelow_of_tabIs hT) hb hb.size
  cases hc : canR (t, u, al, e, x, os) with
  | false => exact ⟨_, 1, .inl ⟨rfl, rfl, rfl⟩, fun V hb => print_not (S := All) t u aa al ac e x oa os oc V (ansIn_later ha hb) hc (hN.later hb), fun V hb => dprint_not t u aa al ac e x oa os oc V (ansIn_later ha hb) hc hsm⟩
  | true =>
    have hR := rng_of hc hi
    refine ⟨dText (t, u, al, e, x, os), 0, .inr ⟨rfl, rfl, dText_data _⟩, fun V hb => ?_, fun V hb => dprint_is t u aa al ac e x oa os oc V (ansIn_later ha hb) (IntsIn.laterB ho hb) hc hR⟩
    refine (print_is (S := All) t u aa al ac e x oa os oc V (ansIn_later ha hb) (IntsIn.laterB ho hb) hc hR (PW V hb) (hN.later hb)).mono ?_
    rintro en w' ⟨⟨s, rfl, hs⟩, h2⟩
    obtain rfl : s = dText (t, u, al, e, x, os) := eq_of_data (hs.trans (dText_data _).symm)
    exact ⟨rfl, h2⟩
set_option maxHeartbeats 8000000 in
set_option maxRecDepth 100000 in
theorem back_walk (r : MR) (v : Value) (w : World) (te : TypeId) (pe : Value) (hv : w.cell? ⟨6, 0, none⟩ = some (.iface te pe)) (hN : NamesAt w) (ht : Lib.TabIs Tryz.prog w "internal/strconv.uint64pow10" .u64 Lib.pow10Tab) (h : RepIn w v r) (hi : InR r) (hsm : SmR r) :
    Calls Tryz.prog 4 #[v] w fun e w' => e = .returned (.bool true) ∧ Below w.heap.size w w' := by
  obtain ⟨t, u, al, e, x, os⟩ := r
  obtain ⟨av, ov, rfl, ha, ho⟩ := h
  obtain ⟨aa, ac, rfl, _, _⟩ := id (Tx.RowsIn.cells ha (by omega))
  obtain ⟨oa, oc, rfl, _, _⟩ := id ho.cells
  simp only [encR]
  obtain ⟨s, n, hcase, P11, P12⟩ := print_both t u aa al ac e x oa os oc w ha ho hi hsm ht hN
  have hlt := World.block_lt_of_cell? _ _ hv
  have HP7 : Hid (∀ s2 V, Below w.heap.size w V → Calls Tryz.prog 7 #[.string s2] V fun e w' => ParseR V (parseQ s2) e w' ∧ Below V.heap.size V w') := fun s2 V hb => parse_is s2 V te pe ((hb.cell (p := ⟨6, 0, none⟩) hlt).trans hv) (hN.later hb)
  have HRI : Hid (∀ V, Below w.heap.size w V → RepIn V (.agg #[.int .i64 t, .bool u, .slice aa al.length ac, .int .i64 e, .int .i64 x, .slice oa os.length oc]) (t, u, al, e, x, os)) := fun V hb => ⟨_, _, rfl, ansIn_later ha hb, IntsIn.laterB ho hb⟩
  have HPP : Hid (n = 0 → s.size ≤ 20000 → parseQ s = .ok (t, u, al, e, x, os)) := fun hn hs => by
    rcases hcase with ⟨_, h1, _⟩ | ⟨hc, _, h2⟩
    · omega
    · exact parse_print hc (rng_of hc hi) h2 hs
  have hn01 : n = 0 ∨ n = 1 := by rcases hcase with ⟨_, h1, _⟩ | ⟨_, h1, _⟩ <;> omega
  have BX := box_new w #[.int .i64 t, .bool u, .slice aa al.length ac, .int .i64 e, .int .i64 x, .slice oa os.length oc] 25
  have A1 := hid (below_box w (.cells #[.int .i64 t, .bool u, .slice aa al.length ac, .int .i64 e, .int .i64 x, .slice oa os.length oc] 25))
  obtain ⟨W, hW⟩ : ∃ W, w.alloc (.cells #[.int .i64 t, .bool u, .slice aa al.length ac, .int .i64 e, .int .i64 x, .slice oa os.length oc] 25) = W := ⟨_, rfl⟩
  obtain ⟨o, hoo⟩ : ∃ o, w.heap.size = o := ⟨_, rfl⟩
  have BW1 : Hid (Below w.heap.size w W) := by rw [← hW]; exact A1.out
  rw [hW, hoo] at BX
  have HBX := hid BX
  obtain ⟨c0, c1, c2, c3, c4, c5⟩ := BX.cells
  clear BX A1 ha ho hi hsm hv hN ht hlt hcase
  go_enter Tryz.func4, Tryz.ntmps4
  go_wp2_with fail
  go_at_call 11
  refine (P11.out _ BW1.out).mono ?_
  rintro en w1 ⟨rfl, b1⟩
  have B1 : Hid (Below w.heap.size w w1) := BW1.out.trans (b1.mono BW1.out.size)
  have HB1 := hid (HBX.out.later b1)
  obtain ⟨d0, d1, d2, d3, d4, d5⟩ := HB1.out.cells
  clear b1 hW hoo P11 c0 c1 c2 c3 c4 c5 HBX
  go_wp2_with fail
  go_at_call 12
  refine (P12.out _ B1.out).mono ?_
  rintro en w2 ⟨rfl, b2⟩
  have B2 : Hid (Below w.heap.size w w2) := B1.out.trans (b2.mono B1.out.size)
  have HB2 := hid (HB1.out.later b2)
  clear b2 P12 d0 d1 d2 d3 d4 d5 HB1
  rcases hn01 with rfl | rfl
  · by_cases hs : s.size ≤ 20000
    · have hsz : (s.size : Int) ≤ 20000 := by omega
      have H7 := hid (HP7.out s w2 B2.out)
      rw [HPP.out rfl hs] at H7
      clear HPP HP7
      go_wp2_with fail
      go_at_call 7
      refine H7.out.mono ?_
      rintro en w3 ⟨⟨v, rfl, hv1⟩, b3⟩
      have B3 : Hid (Below w.heap.size w w3) := B2.out.trans (b3.mono B2.out.size)
      have R3 := hid hv1.inAll
      obtain ⟨ba, bc, pa, pc, rfl, -, -⟩ := id hv1
      have HB3 := hid (HB2.out.later b3)
      clear hv1 b3 H7 HB2
      simp only [encR] at R3 ⊢
      obtain ⟨W3, hW3⟩ : ∃ W3, w3.alloc (.cells #[.int .i64 t, .bool u, .slice ba al.length bc, .int .i64 e, .int .i64 x, .slice pa os.length pc] 25) = W3 := ⟨_, rfl⟩
      have L3 : BoxW W3 w3.heap.size 25 #[.int .i64 t, .bool u, .slice ba al.length bc, .int .i64 e, .int .i64 x, .slice pa os.length pc] := by rw [← hW3]; exact box_new _ _ _
      have L4 : BoxW W3 o 25 #[.int .i64 t, .bool u, .slice aa al.length ac, .int .i64 e, .int .i64 x, .slice oa os.length oc] := by rw [← hW3]; exact HB3.out.later (below_box _ _)
      have C3 : Hid (Below w.heap.size w W3) := by rw [← hW3]; exact B3.out.trans ((below_box w3 _).mono B3.out.size)
      have R3' := hid (R3.out.later (w' := W3) (by rw [← hW3]; exact below_box w3 _))
      obtain ⟨k0, k1, k2, k3, k4, k5⟩ := L3.cells
      obtain ⟨m0, m1, m2, m3, m4, m5⟩ := L4.cells
      have HL3 := hid L3
      have HL4 := hid L4
      clear L3 L4 R3 HB3
      go_wp2_with fail
      go_at_call 10
      clear hW3
      refine (sameRep_is _ _ _ W3 (HRI.out W3 C3.out) R3'.out).mono ?_
      rintro en w4 ⟨rfl, b4⟩
      have B4 : Hid (Below w.heap.size w w4) := C3.out.trans (b4.mono C3.out.size)
      have R4 := hid (R3'.out.later b4)
      clear k0 k1 k2 k3 k4 k5 m0 m1 m2 m3 m4 m5
      obtain ⟨k0, k1, k2, k3, k4, k5⟩ := (HL3.out.later b4).cells
      obtain ⟨m0, m1, m2, m3, m4, m5⟩ := (HL4.out.later b4).cells
      clear b4 R3' HL3 HL4
      go_wp2_with fail
      go_at_call 13
      refine (rpSame_is _ _ _ w4 (HRI.out w4 B4.out) R4.out).mono ?_
      rintro en w5 ⟨rfl, b5⟩
      have B5 : Hid (Below w.heap.size w w5) := B4.out.trans (b5.mono B4.out.size)
      clear b5
      go_wp2_with fail
      go_ret
      exact ⟨rfl, B5.out⟩
    · have hsz : ¬ ((s.size : Int) ≤ 20000) := by omega
      go_wp2_with fail
      go_ret
      exact ⟨rfl, B2.out⟩
  · go_wp2_with fail
    go_ret
    exact ⟨rfl, B2.out⟩
end Go.Proofs.YtkpomcimaofkkaaGreatDoor.Rp
namespace Go.Proofs.YtkpomcimaofkkaaGreatDoor
set_option linter.unusedVariables false
set_option linter.unusedSimpArgs false


/-- From i on in s and from p on in t the same bytes stand, up to N, where a line or the text ends. -/
structure Alk (s t : ByteArray) (i p N : Nat) : Prop where
  same : ∀ j, j ≤ N → bt t (p + j) = bt s (i + j)
  stop : bt s (i + N) = 10 ∨ bt s (i + N) = 0
section
variable {s t : ByteArray} {i p N : Nat}
theorem Alk.run (h : Alk s t i p N) {q : Nat → Bool} (h10 : q 10 = false) (h0 : q 0 = false) {u v : Nat} (hr : RunEnd q s (i + u) (i + v)) (hu : u ≤ N) : v ≤ N ∧ RunEnd q t (p + u) (p + v) := by
  have hv : v ≤ N := by
    by_cases hc : v ≤ N
    · exact hc
    · have := hr.2.1 (i + N) (by omega) (by omega)
      rcases h.stop with e | e
      · rw [e, h10] at this; cases this
      · rw [e, h0] at this; cases this
  refine ⟨hv, by have := hr.1; omega, fun j h1 h2 => ?_, ?_⟩
  · have e := h.same (j - p) (by omega)
    rw [show p + (j - p) = j by omega] at e
    rw [e]
    exact hr.2.1 (i + (j - p)) (by omega) (by omega)
  · rw [h.same v hv]
    exact hr.2.2
theorem Alk.dEnds (h : Alk s t i p N) {u : Nat} (hu : u ≤ N) : ∃ v, u ≤ v ∧ v ≤ N ∧ dEnd s (i + u) = i + v ∧ dEnd t (p + u) = p + v := by
  have hr := dEnd_is s (i + u)
  obtain ⟨v, hv⟩ : ∃ v, dEnd s (i + u) = i + v := ⟨dEnd s (i + u) - i, by have := hr.1; omega⟩
  rw [hv] at hr
  obtain ⟨h1, h2⟩ := h.run rfl rfl hr hu
  exact ⟨v, by have := hr.1; omega, h1, hv, (dEnd_is t (p + u)).uniq h2⟩
theorem Alk.wEnds (h : Alk s t i p N) : ∃ v, v ≤ N ∧ wEnd s i = i + v ∧ wEnd t p = p + v := by
  have hr := wEnd_is s i
  obtain ⟨v, hv⟩ : ∃ v, wEnd s i = i + v := ⟨wEnd s i - i, by have := hr.1; omega⟩
  rw [hv] at hr
  obtain ⟨h1, h2⟩ := h.run (u := 0) rfl rfl hr (Nat.zero_le _)
  exact ⟨v, h1, hv, (wEnd_is t p).uniq h2⟩
theorem Alk.dvs (h : Alk s t i p N) {f : Nat} : ∀ k, f + k ≤ N + 1 → dv t (p + f) k = dv s (i + f) k
  | 0, _ => rfl
  | k + 1, hk => by
    have ih := Alk.dvs (f := f) h k (by omega)
    have e := h.same (f + k) (by omega)
    simp only [dv]
    rw [ih, show p + f + k = p + (f + k) by omega, show i + f + k = i + (f + k) by omega, e]
/-- A number's parts, from i and from p on alike. -/
theorem Alk.num (h : Alk s t i p N) (hb : bt s i = 45 ∨ isDg (bt s i) = true) :
    ∃ f, f ≤ N ∧ f ≤ 1 ∧ nF s i = i + f ∧ nF t p = p + f ∧ bt t (p + f) = bt s (i + f) ∧ (bt t p = bt s i) := by
  have e0 := h.same 0 (Nat.zero_le _)
  rw [Nat.add_zero, Nat.add_zero] at e0
  have hN : 1 ≤ N := by
    by_cases hc : N = 0
    · have hs := h.stop
      rw [hc, Nat.add_zero] at hs
      rcases hb with e | e
      · omega
      · rw [isDg_iff] at e; omega
    · omega
  by_cases h45 : bt s i = 45
  · exact ⟨1, hN, Nat.le_refl _, by unfold nF; rw [if_pos h45], by unfold nF; rw [if_pos (by rw [e0]; exact h45)], h.same 1 hN, e0⟩
  · exact ⟨0, Nat.zero_le _, by omega, by unfold nF; rw [if_neg h45]; rfl, by unfold nF; rw [if_neg (by rw [e0]; exact h45)]; rfl, h.same 0 (Nat.zero_le _), e0⟩
theorem Alk.nums (h : Alk s t i p N) (hb : bt s i = 45 ∨ isDg (bt s i) = true) (hbad : ¬ nBad s i) :
    ∃ v, v ≤ N ∧ nE s i = i + v ∧ nE t p = p + v ∧ nV t p = nV s i ∧ bt t p = bt s i ∧ ¬ nBad t p := by
  obtain ⟨f, hf, hf1, f1, f2, f3, e0⟩ := h.num hb
  have hd : 48 ≤ bt s (i + f) ∧ bt s (i + f) ≤ 57 := by
    unfold nBad at hbad
    rw [f1] at hbad
    by_cases h45 : bt s i = 45
    · omega
    · have hf0 : f = 0 := by
        have : nF s i = i := by unfold nF; rw [if_neg h45]
        omega
      rcases hb with e | e
      · exact absurd e h45
      · rw [isDg_iff] at e
        rw [hf0]; exact e
  have hfN : f + 1 ≤ N := by
    by_cases hc : f = N
    · have hs := h.stop
      rw [← hc] at hs
      omega
    · omega
  have hbt : ¬ nBad t p := by
    unfold nBad at *
    rw [f2, f3, e0]
    rw [f1] at hbad
    exact hbad
  by_cases h48 : bt s (i + f) = 48
  · refine ⟨f + 1, hfN, ?_, ?_, ?_, e0, hbt⟩
    · unfold nE; rw [f1, if_pos h48]; omega
    · unfold nE; rw [f2, if_pos (by rw [f3]; exact h48)]; omega
    · unfold nV nE
      rw [f1, f2, if_pos h48, if_pos (by rw [f3]; exact h48)]
      rw [show p + f + 1 - (p + f) = 1 by omega, show i + f + 1 - (i + f) = 1 by omega]
      exact h.dvs 1 (by omega)
  · obtain ⟨v, v1, v2, v3, v4⟩ := h.dEnds (u := f + 1) hfN
    have g1 : nE s i = i + v := by unfold nE; rw [f1, if_neg h48, show i + f + 1 = i + (f + 1) by omega]; exact v3
    have g2 : nE t p = p + v := by unfold nE; rw [f2, if_neg (by rw [f3]; exact h48), show p + f + 1 = p + (f + 1) by omega]; exact v4
    refine ⟨v, v2, g1, g2, ?_, e0, hbt⟩
    unfold nV
    rw [g1, g2, f1, f2, show p + v - (p + f) = v - f by omega, show i + v - (i + f) = v - f by omega]
    exact h.dvs (v - f) (by omega)
/-- The same number, or a fault of the same number. -/
theorem Alk.numMs (h : Alk s t i p N) (hb : bt s i = 45 ∨ isDg (bt s i) = true) :
    (∃ a a' y, numM s i = .error (a, y) ∧ numM t p = .error (a', y)) ∨ (∃ n v, v ≤ N ∧ 1 ≤ v ∧ i + v ≤ s.size ∧ p + v ≤ t.size ∧ numM s i = .ok (n, i + v) ∧ numM t p = .ok (n, p + v)) := by
  by_cases hbad : nBad s i
  · obtain ⟨f, hf, hf1, f1, f2, f3, e0⟩ := h.num hb
    have hbt : nBad t p := by
      unfold nBad at *
      rw [f2, f3, e0]
      rw [f1] at hbad
      exact hbad
    exact .inl ⟨_, _, _, numM_bad hbad, numM_bad hbt⟩
  · obtain ⟨v, v1, g1, g2, gV, e0, hbt⟩ := h.nums hb hbad
    by_cases hbig : nBig s i
    · have hbg : nBig t p := by unfold nBig at *; rw [gV, e0]; exact hbig
      exact .inl ⟨_, _, _, numM_big hbad hbig, numM_big hbt hbg⟩
    · have hbg : ¬ nBig t p := by unfold nBig at *; rw [gV, e0]; exact hbig
      cases hw : isWd (bt s (nE s i)) with
      | true =>
        have hw2 : isWd (bt t (nE t p)) = true := by rw [g2, h.same v v1, ← g1]; exact hw
        exact .inl ⟨_, _, _, numM_wd hbad hbig hw, numM_wd hbt hbg hw2⟩
      | false =>
        have hw2 : isWd (bt t (nE t p)) = false := by rw [g2, h.same v v1, ← g1]; exact hw
        have hn : nN t p = nN s i := by unfold nN; rw [gV, e0]
        have hi : i < s.size := by
          by_cases hc : i < s.size
          · exact hc
          · rw [bt_out hc] at hb
            rcases hb with e | e
            · omega
            · cases e
        have hgt := nE_gt hbad hi
        have hp : p < t.size := by
          by_cases hc : p < t.size
          · exact hc
          · rw [← e0, bt_out hc] at hb
            rcases hb with e | e
            · omega
            · cases e
        have hgt2 := nE_gt hbt hp
        refine .inr ⟨nN s i, v, v1, by omega, by omega, by omega, ?_, ?_⟩
        · rw [numM_ok hbad hbig hw, g1]
        · rw [numM_ok hbt hbg hw2, g2, hn]
end
end Go.Proofs.YtkpomcimaofkkaaGreatDoor
namespace Go.Proofs.YtkpomcimaofkkaaGreatDoor
set_option linter.unusedVariables false
set_option linter.unusedSimpArgs false

theorem bl_alike {s t : ByteArray} : ∀ (n i p : Nat), (∀ j, j < n → bt t (p + j) = bt s (i + j)) → bl t p n = bl s i n
  | 0, i, p, _ => rfl
  | n + 1, i, p, h => by
    have h0 := h 0 (by omega)
    rw [Nat.add_zero, Nat.add_zero] at h0
    show UInt8.ofNat (bt t p) :: bl t (p + 1) n = UInt8.ofNat (bt s i) :: bl s (i + 1) n
    rw [h0, bl_alike n (i + 1) (p + 1) (fun j hj => by rw [show p + 1 + j = p + (j + 1) by omega, show i + 1 + j = i + (j + 1) by omega]; exact h (j + 1) (by omega))]
theorem extract_alike {s t : ByteArray} {i p v : Nat} (h : ∀ j, j < v → bt t (p + j) = bt s (i + j)) (h1 : i + v ≤ s.size) (h2 : p + v ≤ t.size) : t.extract p (p + v) = s.extract i (i + v) := by
  rw [ByteArray.ext_iff, ← Array.toList_inj, extract_bl t p (p + v) h2, extract_bl s i (i + v) h1, show p + v - p = v by omega, show i + v - i = v by omega]
  exact bl_alike v i p h
theorem in_of_bt {s : ByteArray} {i : Nat} (h : bt s i ≠ 0) : i < s.size := by
  by_cases hc : i < s.size
  · exact hc
  · exact absurd (bt_out hc) h
/-- The same token behind the same bytes, or a fault of the same number. -/
theorem Alk.tok {s t : ByteArray} {i p N : Nat} (h : Alk s t i p N) (hi : i < s.size) (hp : p < t.size) (h10 : bt s i ≠ 10) :
    (∃ a a' y, tokM s i = .error (a, y) ∧ tokM t p = .error (a', y)) ∨ (∃ τ τ' v, 1 ≤ v ∧ v ≤ N ∧ tokM s i = .ok (τ, i + v) ∧ tokM t p = .ok (τ', p + v) ∧ bareT τ' = bareT τ ∧ τ.1 ≠ 4) := by
  have e0 := h.same 0 (Nat.zero_le _)
  rw [Nat.add_zero, Nat.add_zero] at e0
  by_cases hsm : isSm (bt s i) = true
  · obtain ⟨v, v1, g1, g2⟩ := h.wEnds
    have hr := wEnd_is s i
    have hv1 : 1 ≤ v := by
      by_cases hc : v = 0
      · rw [g1, hc, Nat.add_zero] at hr
        have := hr.2.2
        unfold isWd at this
        rw [hsm] at this
        cases this
      · omega
    have hsz : i + v ≤ s.size := by rw [← g1]; exact hr.le_size rfl (Nat.le_of_lt hi)
    have htz : p + v ≤ t.size := by rw [← g2]; exact (wEnd_is t p).le_size rfl (Nat.le_of_lt hp)
    have hx := extract_alike (s := s) (t := t) (i := i) (p := p) (v := v) (fun j hj => h.same j (by omega)) hsz htz
    refine .inr ⟨(1, (i : Int), s.extract i (i + v), 0), (1, (p : Int), t.extract p (p + v), 0), v, hv1, v1, ?_, ?_, ?_, (show (1 : Int) ≠ 4 by decide)⟩
    · unfold tokM; rw [if_pos hsm, g1]
    · unfold tokM; rw [if_pos (by rw [e0]; exact hsm), g2]
    · rw [hx]; rfl
  · by_cases hnm : bt s i = 45 ∨ isDg (bt s i) = true
    · rcases h.numMs hnm with ⟨a, a', y, n1, n2⟩ | ⟨n, v, v1, v2, v3, v4, n1, n2⟩
      · refine .inl ⟨a, a', y, ?_, ?_⟩
        · unfold tokM; rw [if_neg hsm, if_pos hnm, n1]
        · unfold tokM; rw [if_neg (by rw [e0]; exact hsm), if_pos (by rw [e0]; exact hnm), n2]
      · have hx := extract_alike (s := s) (t := t) (i := i) (p := p) (v := v) (fun j hj => h.same j (by omega)) v3 v4
        refine .inr ⟨(2, (i : Int), s.extract i (i + v), n), (2, (p : Int), t.extract p (p + v), n), v, v2, v1, ?_, ?_, by rw [hx]; rfl, (show (2 : Int) ≠ 4 by decide)⟩
        · unfold tokM; rw [if_neg hsm, if_pos hnm, n1]
        · unfold tokM; rw [if_neg (by rw [e0]; exact hsm), if_pos (by rw [e0]; exact hnm), n2]
    · by_cases hmk : bt s i = 40 ∨ bt s i = 41 ∨ bt s i = 91 ∨ bt s i = 93
      · have hN : 1 ≤ N := by
          by_cases hc : N = 0
          · have hs := h.stop
            rw [hc, Nat.add_zero] at hs
            omega
          · omega
        have hx := extract_alike (s := s) (t := t) (i := i) (p := p) (v := 1) (fun j hj => h.same j (by omega)) (by omega) (by omega)
        refine .inr ⟨(3, (i : Int), s.extract i (i + 1), 0), (3, (p : Int), t.extract p (p + 1), 0), 1, Nat.le_refl _, hN, ?_, ?_, ?_, (show (3 : Int) ≠ 4 by decide)⟩
        · unfold tokM; rw [if_neg hsm, if_neg hnm, if_pos hmk]
        · unfold tokM; rw [if_neg (by rw [e0]; exact hsm), if_neg (by rw [e0]; exact hnm), if_pos (by rw [e0]; exact hmk)]
        · rw [hx]; rfl
      · refine .inl ⟨i, p, 10, ?_, ?_⟩
        · unfold tokM; rw [if_neg hsm, if_neg hnm, if_neg hmk, if_neg h10]
        · unfold tokM; rw [if_neg (by rw [e0]; exact hsm), if_neg (by rw [e0]; exact hnm), if_neg (by rw [e0]; exact hmk), if_neg (by rw [e0]; exact h10)]
theorem tok_line10 {s : ByteArray} {i : Nat} (h : bt s i = 10) : tokM s i = .ok ((4, (i : Int), s.extract i (i + 1), 0), i + 1) := by
  unfold tokM
  rw [h]
  rfl
theorem line_text {s : ByteArray} {i : Nat} (h : bt s i = 10) : s.extract i (i + 1) = ⟨#[10]⟩ := by
  have hi : i < s.size := in_of_bt (by omega)
  rw [ByteArray.ext_iff, ← Array.toList_inj, extract_bl s i (i + 1) (by omega), show i + 1 - i = 1 by omega]
  show [UInt8.ofNat (bt s i)] = _
  rw [h]
  rfl
end Go.Proofs.YtkpomcimaofkkaaGreatDoor
