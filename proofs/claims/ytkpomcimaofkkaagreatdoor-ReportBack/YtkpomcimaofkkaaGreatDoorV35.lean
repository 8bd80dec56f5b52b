/-
  report.Same, of one report twice.
  ReportBack: a report's text is read as it.
  From a reading of a report as data to the report in memory: its ints have 64 bits, its keys are no longer than a machine holds.
-/
import Derived.Test.YtkpomcimaofkkaaGreatDoorV32
import Derived.Test.YtkpomcimaofkkaaGreatDoorV34
import Derived.Test.YtkpomcimaofkkaaGreatDoorV26
import Derived.Test.YtkpomcimaofkkaaGreatDoorV31
import Derived.Deep.Slices
import Derived.OpenShut
import Derived.SizedLaws
namespace Go.Proofs.YtkpomcimaofkkaaGreatDoor.Rp
set_option linter.unusedVariables false
set_option linter.unusedSimpArgs false
open Go.RowKit Go.Lib

set_option maxHeartbeats 8000000 in
set_option maxRecDepth 100000 in
theorem sameAnR_is (a b : MA) (cv dv : Value) (w : World) (ha : WhysIn w cv a.cyc) (hb : WhysIn w dv b.cyc) :
    Calls Tryz.prog 49 #[.agg (encA a cv).toArray, .agg (encA b dv).toArray] w fun e w' => e = .returned (.bool (aEq a b)) ∧ Below w.heap.size w w' := by
  obtain ⟨a1, a2, a3, a4, a5, a6, ac, a8, a9⟩ := a
  obtain ⟨b1, b2, b3, b4, b5, b6, bc, b8, b9⟩ := b
  simp only [MA.cyc] at ha hb
  obtain ⟨pa, pc, rfl, pl, pk⟩ := Tx.RowsIn.cells ha (by omega)
  obtain ⟨qa, qc, rfl, ql, qk⟩ := Tx.RowsIn.cells hb (by omega)
  have HA := hid ha
  have HB := hid hb
  have PK := hid pk
  have QK := hid qk
  clear ha hb pk qk
  simp only [encA]
  cases h0 : (a1 == b1)
  · have HF : aEq (a1, a2, a3, a4, a5, a6, ac, a8, a9) (b1, b2, b3, b4, b5, b6, bc, b8, b9) = false := by simp only [aEq, h0, Bool.false_and, Bool.true_and, Bool.and_false]
    rw [HF]
    clear HF
    go_enter Tryz.func49, Tryz.ntmps49
    go_wp2
    go_ret
    exact ⟨rfl, below_2 _ _ _⟩
  cases h1 : (a2 == b2)
  · have HF : aEq (a1, a2, a3, a4, a5, a6, ac, a8, a9) (b1, b2, b3, b4, b5, b6, bc, b8, b9) = false := by simp only [aEq, h0, h1, Bool.false_and, Bool.true_and, Bool.and_false]
    rw [HF]
    clear HF
    go_enter Tryz.func49, Tryz.ntmps49
    go_wp2
    go_ret
    exact ⟨rfl, below_2 _ _ _⟩
  cases h2 : (a3 == b3)
  · have HF : aEq (a1, a2, a3, a4, a5, a6, ac, a8, a9) (b1, b2, b3, b4, b5, b6, bc, b8, b9) = false := by simp only [aEq, h0, h1, h2, Bool.false_and, Bool.true_and, Bool.and_false]
    rw [HF]
    clear HF
    go_enter Tryz.func49, Tryz.ntmps49
    go_wp2
    go_ret
    exact ⟨rfl, below_2 _ _ _⟩
  cases h3 : (a4 == b4)
  · have HF : aEq (a1, a2, a3, a4, a5, a6, ac, a8, a9) (b1, b2, b3, b4, b5, b6, bc, b8, b9) = false := by simp only [aEq, h0, h1, h2, h3, Bool.false_and, Bool.true_and, Bool.and_false]
    rw [HF]
    clear HF
    go_enter Tryz.func49, Tryz.ntmps49
    go_wp2
    go_ret
    exact ⟨rfl, below_2 _ _ _⟩
  cases h4 : (a5.toList == b5.toList)
  · have HF : aEq (a1, a2, a3, a4, a5, a6, ac, a8, a9) (b1, b2, b3, b4, b5, b6, bc, b8, b9) = false := by simp only [aEq, h0, h1, h2, h3, h4, Bool.false_and, Bool.true_and, Bool.and_false]
    rw [HF]
    clear HF
    go_enter Tryz.func49, Tryz.ntmps49
    go_wp2
    go_ret
    exact ⟨rfl, below_2 _ _ _⟩
  cases h5 : (a6 == b6)
  · have HF : aEq (a1, a2, a3, a4, a5, a6, ac, a8, a9) (b1, b2, b3, b4, b5, b6, bc, b8, b9) = false := by simp only [aEq, h0, h1, h2, h3, h4, h5, Bool.false_and, Bool.true_and, Bool.and_false]
    rw [HF]
    clear HF
    go_enter Tryz.func49, Tryz.ntmps49
    go_wp2
    go_ret
    exact ⟨rfl, below_2 _ _ _⟩
  cases h6 : (a8 == b8)
  · have HF : aEq (a1, a2, a3, a4, a5, a6, ac, a8, a9) (b1, b2, b3, b4, b5, b6, bc, b8, b9) = false := by simp only [aEq, h0, h1, h2, h3, h4, h5, h6, Bool.false_and, Bool.true_and, Bool.and_false]
    rw [HF]
    clear HF
    go_enter Tryz.func49, Tryz.ntmps49
    go_wp2
    go_ret
    exact ⟨rfl, below_2 _ _ _⟩
  cases h7 : (a9 == b9)
  · have HF : aEq (a1, a2, a3, a4, a5, a6, ac, a8, a9) (b1, b2, b3, b4, b5, b6, bc, b8, b9) = false := by simp only [aEq, h0, h1, h2, h3, h4, h5, h6, h7, Bool.false_and, Bool.true_and, Bool.and_false]
    rw [HF]
    clear HF
    go_enter Tryz.func49, Tryz.ntmps49
    go_wp2
    go_ret
    exact ⟨rfl, below_2 _ _ _⟩
  have HT : Hid (aEq (a1, a2, a3, a4, a5, a6, ac, a8, a9) (b1, b2, b3, b4, b5, b6, bc, b8, b9) = whysEq ac bc) := by show _ = _; simp only [aEq, h0, h1, h2, h3, h4, h5, h6, h7, Bool.true_and]
  go_enter Tryz.func49, Tryz.ntmps49
  go_wp2_with (go_at_call 88; refine (eqWhy_any _ _ ac bc _ (HA.out.later (below_2 _ _ _)) (HB.out.later (below_2 _ _ _))).mono ?_; rintro e w1 ⟨rfl, hb1⟩; have B1 := hid hb1; clear hb1)
  go_ret
  exact ⟨by rw [HT.out]; rfl, (below_2 _ _ _).trans (B1.out.mono (below_2 _ _ _).size)⟩
set_option maxHeartbeats 8000000 in
set_option maxRecDepth 100000 in
theorem eqFAR_walk (a1 a2 : Option Addr) (c1 c2 n : Nat) (xs ys : List MA) (w : World) (hx : xs.length = n) (hy : ys.length = n) (hbig : n * 96 ≤ 140737488355328)
    (h1 : Tx.RowCells 9 (AnRow w) w a1 xs n) (h2 : Tx.RowCells 9 (AnRow w) w a2 ys n) :
    Calls Tryz.prog 48 #[.slice a1 n c1, .slice a2 n c2, .func (.func 49) #[] #[]] w fun e w' => e = .returned (.bool (ansEq xs ys)) ∧ Below w.heap.size w w' := by
  have HX : Hid (xs.length = n) := hx
  have HY : Hid (ys.length = n) := hy
  have H1 := hid h1
  have H2 := hid h2
  clear hx hy h1 h2
  go_enter Tryz.func48, Tryz.ntmps48
  go_wp2
  go_loopg [7, 8, 9, 17] n (fun g _ _ _ i wr => ∃ k : Nat, k ≤ n ∧ n - k ≤ g ∧ i = .int .i64 k ∧ Aside (Below w.heap.size w wr) ∧ Aside (∀ j, j < k → aEq (xs.getD j default) (ys.getD j default) = true))
  case atStart => exact ⟨0, Nat.zero_le _, by omega, rfl, Below.refl _ _, fun j hj => absurd hj (Nat.not_lt_zero _)⟩
  case round =>
    obtain ⟨k, hk, hg, rfl, BK, A⟩ := hrel
    by_cases hlt : k < n
    · have hlti : (k : Int) < (n : Int) := by omega
      have hk0 : (0 : Int) ≤ (k : Int) := by omega
      obtain ⟨g1, o1, cs1, rfl, -, -, ⟨cv, e1, hw1⟩, hca⟩ := H1.out k hlt
      obtain ⟨g2, o2, cs2, rfl, -, -, ⟨dv, e2, hw2⟩, hcb⟩ := H2.out k hlt
      have W1 := hid hw1
      have W2 := hid hw2
      generalize hX : xs.getD k default = X at *
      generalize hY : ys.getD k default = Y at *
      have HX' : Hid (xs.getD k default = X) := hX
      have HY' : Hid (ys.getD k default = Y) := hY
      clear hX hY hw1 hw2
      obtain ⟨Q, hQ⟩ : ∃ Q, aEq X Y = Q := ⟨_, rfl⟩
      have HQ := hid hQ
      clear hQ
      obtain ⟨X1, X2, X3, X4, X5, X6, XC, X8, X9⟩ := X
      obtain ⟨Y1, Y2, Y3, Y4, Y5, Y6, YC, Y8, Y9⟩ := Y
      obtain ⟨pa, pc, hcv, -⟩ := id W1.out
      obtain ⟨qa, qc, hdv, -⟩ := id W2.out
      subst hcv
      subst hdv
      simp only [encA, MA.cyc] at e1 e2
      subst e1 e2
      have u0 := below_cell BK.out (hca 0 _ rfl)
      have u1 := below_cell BK.out (hca 1 _ rfl)
      have u2 := below_cell BK.out (hca 2 _ rfl)
      have u3 := below_cell BK.out (hca 3 _ rfl)
      have u4 := below_cell BK.out (hca 4 _ rfl)
      have u5 := below_cell BK.out (hca 5 _ rfl)
      have u6 := below_cell BK.out (hca 6 _ rfl)
      have u7 := below_cell BK.out (hca 7 _ rfl)
      have u8 := below_cell BK.out (hca 8 _ rfl)
      rw [Nat.add_zero] at u0
      have v0 := below_cell BK.out (hcb 0 _ rfl)
      have v1 := below_cell BK.out (hcb 1 _ rfl)
      have v2 := below_cell BK.out (hcb 2 _ rfl)
      have v3 := below_cell BK.out (hcb 3 _ rfl)
      have v4 := below_cell BK.out (hcb 4 _ rfl)
      have v5 := below_cell BK.out (hcb 5 _ rfl)
      have v6 := below_cell BK.out (hcb 6 _ rfl)
      have v7 := below_cell BK.out (hcb 7 _ rfl)
      have v8 := below_cell BK.out (hcb 8 _ rfl)
      rw [Nat.add_zero] at v0
      clear hca hcb
      have hgl1 : g1 < wr.heap.size := World.block_lt_of_cell? _ _ u0
      have hgl2 : g2 < wr.heap.size := World.block_lt_of_cell? _ _ v0
      have SA : Hid (∀ W, Below wr.heap.size wr W → Calls Tryz.prog 49 #[(.agg #[.int .i64 X1, .int .i64 X2, .int .i64 X3, .int .i64 X4, .string X5, .int .i64 X6, .slice pa XC.length pc, .bool X8, .int .i64 X9]), (.agg #[.int .i64 Y1, .int .i64 Y2, .int .i64 Y3, .int .i64 Y4, .string Y5, .int .i64 Y6, .slice qa YC.length qc, .bool Y8, .int .i64 Y9])] W fun e w' => e = .returned (.bool Q) ∧ Below W.heap.size W w') := fun W hb => by
        have := sameAnR_is (X1, X2, X3, X4, X5, X6, XC, X8, X9) (Y1, Y2, Y3, Y4, Y5, Y6, YC, Y8, Y9) _ _ W (W1.out.later (BK.out.trans (hb.mono BK.out.size))) (W2.out.later (BK.out.trans (hb.mono BK.out.size)))
        rw [HQ.out] at this
        exact this
      cases Q with
      | true =>
        go_wp2_with (go_at_call 49; refine (SA.out _ (below_2 _ _ _)).mono ?_; rintro e w1 ⟨rfl, hb1⟩; have B1 := hid hb1; clear hb1)
        go_roundg (n - (k + 1))
        case measure => omega
        case rel =>
          refine ⟨k + 1, by omega, by omega, by go_num, (BK.out.trans (((below_2 wr _ _).trans (B1.out.mono (below_2 wr _ _).size)).mono BK.out.size)), (show Aside _ from fun j hj => ?_)⟩
          by_cases e : j = k
          · subst e; rw [HX'.out, HY'.out]; exact HQ.out
          · exact A.out j (by omega)
      | false =>
        go_wp2_with (go_at_call 49; refine (SA.out _ (below_2 _ _ _)).mono ?_; rintro e w1 ⟨rfl, hb1⟩; have B1 := hid hb1; clear hb1)
        go_ret
        refine ⟨?_, (BK.out.trans (((below_2 wr _ _).trans (B1.out.mono (below_2 wr _ _).size)).mono BK.out.size))⟩
        rw [show ansEq xs ys = false from allEq_miss _ xs ys k (by rw [HX.out]; exact hlt) (by rw [HX'.out, HY'.out]; exact HQ.out)]
        rfl
    · go_wp2
      go_ret
      refine ⟨?_, BK.out⟩
      rw [show ansEq xs ys = true from allEq_hit _ xs ys (by rw [HX.out, HY.out]) (fun j hj => A.out j (by rw [HX.out] at hj; omega))]
      rfl

theorem eqFAR_lens (a1 a2 : Option Addr) (c1 c2 n m : Nat) (w : World) (hnm : n ≠ m) :
    Calls Tryz.prog 48 #[.slice a1 n c1, .slice a2 m c2, .func (.func 49) #[] #[]] w fun e w' => e = .returned (.bool false) ∧ w' = w := by
  have hne : ((n : Int) != (m : Int)) = true := by rw [bne_iff_ne]; omega
  go_enter Tryz.func48, Tryz.ntmps48
  go_wp2
  go_ret
  exact ⟨rfl, rfl⟩
theorem eqFAR_any (v u : Value) (xs ys : List MA) (w : World) (h1 : AnsIn w v xs) (h2 : AnsIn w u ys) :
    Calls Tryz.prog 48 #[v, u, .func (.func 49) #[] #[]] w fun e w' => e = .returned (.bool (ansEq xs ys)) ∧ Below w.heap.size w w' := by
  obtain ⟨a1, c1, rfl, l1, k1⟩ := Tx.RowsIn.cells h1 (by omega)
  obtain ⟨a2, c2, rfl, l2, k2⟩ := Tx.RowsIn.cells h2 (by omega)
  by_cases h : xs.length = ys.length
  · rw [← h] at k2 ⊢
    exact eqFAR_walk a1 a2 c1 c2 xs.length xs ys w rfl h.symm l1.1 k1 k2
  · rw [show ansEq xs ys = false from allEq_len _ xs ys h]
    exact (eqFAR_lens a1 a2 c1 c2 _ _ w h).mono fun e w' ⟨he, hw⟩ => ⟨he, by rw [hw]; exact Below.refl _ _⟩
set_option maxHeartbeats 8000000 in
set_option maxRecDepth 100000 in
/-- report.Same, of one report twice. -/
theorem rpSame_is (r : MR) (v u : Value) (w : World) (h1 : RepIn w v r) (h2 : RepIn w u r) :
    Calls Tryz.prog 13 #[v, u] w fun e w' => e = .returned (.bool true) ∧ Below w.heap.size w w' := by
  obtain ⟨t, b, al, x, y, os⟩ := r
  obtain ⟨av, ov, rfl, ha, ho⟩ := h1
  obtain ⟨bv, pv, rfl, hb, hp⟩ := h2
  obtain ⟨oa, oc, rfl, ol, ok⟩ := ho.cells
  obtain ⟨pa, pc, rfl, pl, pk⟩ := hp.cells
  obtain ⟨aa, ac, rfl, al1, ak⟩ := Tx.RowsIn.cells ha (by omega)
  obtain ⟨ba, bc, rfl, bl1, bk⟩ := Tx.RowsIn.cells hb (by omega)
  simp only [encR]
  have E0 : (t == t) = true := by simp
  have E1 : (b == b) = true := by simp
  have E2 : (x == x) = true := by simp
  have E3 : (y == y) = true := by simp
  have HA := hid ha
  have HB := hid hb
  have OK := hid ok
  have PK := hid pk
  have OL := hid ol
  clear ha hb ok pk ak bk ho hp ol pl al1 bl1
  have S32 : Hid (∀ W, Below w.heap.size w W → Calls Tryz.prog 32 #[.slice oa os.length oc, .slice pa os.length pc] W fun e w' => e = .returned (.bool true) ∧ Below W.heap.size W w') := fun W hW => by
    refine (slicesEqual_cells oa pa oc pc os.length os.length os os W rfl rfl (by have h := OL.out.1; dsimp only at h; omega) (OK.out.later hW) (PK.out.later hW)).mono ?_
    rintro e w' ⟨he, q, hq⟩
    refine ⟨by rw [he]; simp, ?_⟩
    rw [hq]
    exact below_drewN (Below.refl _ _) q
  have S33 : Hid (∀ W, Below w.heap.size w W → Calls Tryz.prog 48 #[.slice aa al.length ac, .slice ba al.length bc, .func (.func 49) #[] #[]] W fun e w' => e = .returned (.bool true) ∧ Below W.heap.size W w') := fun W hW => by
    have h := eqFAR_any _ _ al al W (ansIn_later HA.out hW) (ansIn_later HB.out hW)
    rw [show ansEq al al = true from allEq_refl _ aEq_refl al] at h
    exact h
  clear HA HB OK PK OL
  go_enter Tryz.func13, Tryz.ntmps13
  go_wp2_with fail
  go_at_call 32
  refine (S32.out _ (below_2 _ _ _)).mono ?_
  rintro e w1 ⟨rfl, hb1⟩
  have B1 : Hid (Below w.heap.size w w1) := (below_2 w _ _).trans (hb1.mono (below_2 w _ _).size)
  have L0 := ((box_new w #[.int .i64 t, .bool b, .slice aa al.length ac, .int .i64 x, .int .i64 y, .slice oa os.length oc] 25).later (below_box _ (.cells #[.int .i64 t, .bool b, .slice ba al.length bc, .int .i64 x, .int .i64 y, .slice pa os.length pc] 25))).later hb1
  have L1 := (box_new (w.alloc (.cells #[.int .i64 t, .bool b, .slice aa al.length ac, .int .i64 x, .int .i64 y, .slice oa os.length oc] 25)) #[.int .i64 t, .bool b, .slice ba al.length bc, .int .i64 x, .int .i64 y, .slice pa os.length pc] 25).later hb1
  rw [show (w.alloc (.cells #[.int .i64 t, .bool b, .slice aa al.length ac, .int .i64 x, .int .i64 y, .slice oa os.length oc] 25)).heap.size = w.heap.size + 1 by simp] at L1
  obtain ⟨-, -, k2, -, -, -⟩ := L0.cells
  obtain ⟨-, -, m2, -, -, -⟩ := L1.cells
  clear L0 L1 hb1
  go_wp2_with fail
  go_at_call 48
  refine (S33.out _ B1.out).mono ?_
  rintro e w2 ⟨rfl, hb2⟩
  have B2 : Hid (Below w.heap.size w w2) := B1.out.trans (hb2.mono B1.out.size)
  clear hb2
  go_wp2_with fail
  go_ret
  exact ⟨rfl, B2.out⟩
end Go.Proofs.YtkpomcimaofkkaaGreatDoor.Rp
namespace Go.Proofs.YtkpomcimaofkkaaGreatDoor.Rp
set_option linter.unusedVariables false
set_option linter.unusedSimpArgs false
open Go.RowKit Go.Lib

set_option maxHeartbeats 2000000 in
set_option maxRecDepth 100000 in
/-- A report that may not be is not printed. -/
theorem dprint_not (t : Int) (u : Bool) (aa : Option Addr) (al : List MA) (ac : Nat) (e x : Int) (oa : Option Addr) (os : List Int) (oc : Nat) (w : World) (hal : AnsIn w (.slice aa al.length ac) al) (hr : canR (t, u, al, e, x, os) = false) (hsm : ∀ a ∈ al, SmA a) :
    Calls Tryz.prog 12 #[.agg #[.int .i64 t, .bool u, .slice aa al.length ac, .int .i64 e, .int .i64 x, .slice oa os.length oc]] w fun en w' => en = .returned (.tuple #[.string ⟨#[]⟩, .int .i64 1]) ∧ Below w.heap.size w w' := by
  have BX := box_new w #[.int .i64 t, .bool u, .slice aa al.length ac, .int .i64 e, .int .i64 x, .slice oa os.length oc] 25
  have A1 := hid (below_box w (.cells #[.int .i64 t, .bool u, .slice aa al.length ac, .int .i64 e, .int .i64 x, .slice oa os.length oc] 25))
  obtain ⟨W, hW⟩ : ∃ W, w.alloc (.cells #[.int .i64 t, .bool u, .slice aa al.length ac, .int .i64 e, .int .i64 x, .slice oa os.length oc] 25) = W := ⟨_, rfl⟩
  obtain ⟨o, ho⟩ : ∃ o, w.heap.size = o := ⟨_, rfl⟩
  have BW1 : Hid (Below w.heap.size w W) := by rw [← hW]; exact A1.out
  rw [hW, ho] at BX
  obtain ⟨c0, c1, c2, c3, c4, c5⟩ := BX.cells
  have CAN := hid (dcan_is (S := All) t u aa al ac e x oa os oc W (ansIn_later hal BW1.out) hsm)
  rw [hr] at CAN
  clear BX A1 hal hr hsm
  go_enter Tryz.func12, Tryz.ntmps12
  go_wp2_with fail
  go_at_call 30
  refine CAN.out.mono ?_
  rintro en w1 ⟨rfl, b1⟩
  have B1 : Hid (Below w.heap.size w w1) := BW1.out.trans (b1.mono BW1.out.size)
  clear b1 hW ho CAN c0 c1 c2 c3 c4 c5
  go_wp2_with fail
  refine bodyPost_ret (results_tmp2 rfl _ _ _) rfl ⟨rfl, B1.out⟩
/-- The program's Print and the document's print one text, or none. -/
theorem print_both (t : Int) (u : Bool) (aa : Option Addr) (al : List MA) (ac : Nat) (e x : Int) (oa : Option Addr) (os : List Int) (oc : Nat) (w : World) (ha : AnsIn w (.slice aa al.length ac) al) (ho : IntsIn All w (.slice oa os.length oc) os) (hi : InR (t, u, al, e, x, os)) (hsm : SmR (t, u, al, e, x, os)) (hT : Lib.TabIs Tryz.prog w "internal/strconv.uint64pow10" .u64 Lib.pow10Tab) (hN : NamesAt w) :
    ∃ (s : ByteArray) (n : Int), ((canR (t, u, al, e, x, os) = false ∧ n = 1 ∧ s = ⟨#[]⟩) ∨ (canR (t, u, al, e, x, os) = true ∧ n = 0 ∧ s.data.toList = printB (t, u, al, e, x, os))) ∧
      Hid (∀ V, Below w.heap.size w V → Calls Tryz.prog 11 #[.agg #[.int .i64 t, .bool u, .slice aa al.length ac, .int .i64 e, .int .i64 x, .slice oa os.length oc]] V fun en w' => en = .returned (.tuple #[.string s, .int .i64 n]) ∧ Below V.heap.size V w') ∧
      Hid (∀ V, Below w.heap.size w V → Calls Tryz.prog 12 #[.agg #[.int .i64 t, .bool u, .slice aa al.length ac, .int .i64 e, .int .i64 x, .slice oa os.length oc]] V fun en w' => en = .returned (.tuple #[.string s, .int .i64 n]) ∧ Below V.heap.size V w') := by
  have PW : ∀ V, Below w.heap.size w V → Pow V.heap.size V := fun V hb => Pow.later (Lib.tabBelow_of_tabIs hT) hb hb.size
  cases hc : canR (t, u, al, e, x, os) with
  | false => exact ⟨_, 1, .inl ⟨rfl, rfl, rfl⟩, fun V hb => print_not (S := All) t u aa al ac e x oa os oc V (ansIn_later ha hb) hc (hN.later hb), fun V hb => dprint_not t u aa al ac e x oa os oc V (ansIn_later ha hb) hc hsm⟩
  | true =>
    have hR := rng_of hc hi
    refine ⟨dText (t, u, al, e, x, os), 0, .inr ⟨rfl, rfl, dText_data _⟩, fun V hb => ?_, fun V hb => dprint_is t u aa al ac e x oa os oc V (ansIn_later ha hb) (IntsIn.laterB ho hb) hc hR⟩
    refine (print_is (S := All) t u aa al ac e x oa os oc V (ansIn_later ha hb) (IntsIn.laterB ho hb) hc hR (PW V hb) (hN.later hb)).mono ?_
    rintro en w' ⟨⟨s, rfl, hs⟩, h2⟩
    obtain rfl : s = dText (t, u, al, e, x, os) := eq_of_data (hs.trans (dText_data _).symm)
    exact ⟨rfl, h2⟩
set_option maxHeartbeats 8000000 in
set_option maxRecDepth 100000 in
theorem back_walk (r : MR) (v : Value) (w : World) (te : TypeId) (pe : Value) (hv : w.cell? ⟨6, 0, none⟩ = some (.iface te pe)) (hN : NamesAt w) (ht : Lib.TabIs Tryz.prog w "internal/strconv.uint64pow10" .u64 Lib.pow10Tab) (h : RepIn w v r) (hi : InR r) (hsm : SmR r) :
    Calls Tryz.prog 4 #[v] w fun e w' => e = .returned (.bool true) ∧ Below w.heap.size w w' := by
  obtain ⟨t, u, al, e, x, os⟩ := r
  obtain ⟨av, ov, rfl, ha, ho⟩ := h
  obtain ⟨aa, ac, rfl, _, _⟩ := id (Tx.RowsIn.cells ha (by omega))
  obtain ⟨oa, oc, rfl, _, _⟩ := id ho.cells
  simp only [encR]
  obtain ⟨s, n, hcase, P11, P12⟩ := print_both t u aa al ac e x oa os oc w ha ho hi hsm ht hN
  have hlt := World.block_lt_of_cell? _ _ hv
  have HP7 : Hid (∀ s2 V, Below w.heap.size w V → Calls Tryz.prog 7 #[.string s2] V fun e w' => ParseR V (parseQ s2) e w' ∧ Below V.heap.size V w') := fun s2 V hb => parse_is s2 V te pe ((hb.cell (p := ⟨6, 0, none⟩) hlt).trans hv) (hN.later hb)
  have HRI : Hid (∀ V, Below w.heap.size w V → RepIn V (.agg #[.int .i64 t, .bool u, .slice aa al.length ac, .int .i64 e, .int .i64 x, .slice oa os.length oc]) (t, u, al, e, x, os)) := fun V hb => ⟨_, _, rfl, ansIn_later ha hb, IntsIn.laterB ho hb⟩
  have HPP : Hid (n = 0 → s.size ≤ 20000 → parseQ s = .ok (t, u, al, e, x, os)) := fun hn hs => by
    rcases hcase with ⟨_, h1, _⟩ | ⟨hc, _, h2⟩
    · omega
    · exact parse_print hc (rng_of hc hi) h2 hs
  have hn01 : n = 0 ∨ n = 1 := by rcases hcase with ⟨_, h1, _⟩ | ⟨_, h1, _⟩ <;> omega
  have BX := box_new w #[.int .i64 t, .bool u, .slice aa al.length ac, .int .i64 e, .int .i64 x, .slice oa os.length oc] 25
  have A1 := hid (below_box w (.cells #[.int .i64 t, .bool u, .slice aa al.length ac, .int .i64 e, .int .i64 x, .slice oa os.length oc] 25))
  obtain ⟨W, hW⟩ : ∃ W, w.alloc (.cells #[.int .i64 t, .bool u, .slice aa al.length ac, .int .i64 e, .int .i64 x, .slice oa os.length oc] 25) = W := ⟨_, rfl⟩
  obtain ⟨o, hoo⟩ : ∃ o, w.heap.size = o := ⟨_, rfl⟩
  have BW1 : Hid (Below w.heap.size w W) := by rw [← hW]; exact A1.out
  rw [hW, hoo] at BX
  have HBX := hid BX
  obtain ⟨c0, c1, c2, c3, c4, c5⟩ := BX.cells
  clear BX A1 ha ho hi hsm hv hN ht hlt hcase
  go_enter Tryz.func4, Tryz.ntmps4
  go_wp2_with fail
  go_at_call 11
  refine (P11.out _ BW1.out).mono ?_
  rintro en w1 ⟨rfl, b1⟩
  have B1 : Hid (Below w.heap.size w w1) := BW1.out.trans (b1.mono BW1.out.size)
  have HB1 := hid (HBX.out.later b1)
  obtain ⟨d0, d1, d2, d3, d4, d5⟩ := HB1.out.cells
  clear b1 hW hoo P11 c0 c1 c2 c3 c4 c5 HBX
  go_wp2_with fail
  go_at_call 12
  refine (P12.out _ B1.out).mono ?_
  rintro en w2 ⟨rfl, b2⟩
  have B2 : Hid (Below w.heap.size w w2) := B1.out.trans (b2.mono B1.out.size)
  have HB2 := hid (HB1.out.later b2)
  clear b2 P12 d0 d1 d2 d3 d4 d5 HB1
  rcases hn01 with rfl | rfl
  · by_cases hs : s.size ≤ 20000
    · have hsz : (s.size : Int) ≤ 20000 := by omega
      have H7 := hid (HP7.out s w2 B2.out)
      rw [HPP.out rfl hs] at H7
      clear HPP HP7
      go_wp2_with fail
      go_at_call 7
      refine H7.out.mono ?_
      rintro en w3 ⟨⟨v, rfl, hv1⟩, b3⟩
      have B3 : Hid (Below w.heap.size w w3) := B2.out.trans (b3.mono B2.out.size)
      have R3 := hid hv1.inAll
      obtain ⟨ba, bc, pa, pc, rfl, -, -⟩ := id hv1
      have HB3 := hid (HB2.out.later b3)
      clear hv1 b3 H7 HB2
      simp only [encR] at R3 ⊢
      obtain ⟨W3, hW3⟩ : ∃ W3, w3.alloc (.cells #[.int .i64 t, .bool u, .slice ba al.length bc, .int .i64 e, .int .i64 x, .slice pa os.length pc] 25) = W3 := ⟨_, rfl⟩
      have L3 : BoxW W3 w3.heap.size 25 #[.int .i64 t, .bool u, .slice ba al.length bc, .int .i64 e, .int .i64 x, .slice pa os.length pc] := by rw [← hW3]; exact box_new _ _ _
      have L4 : BoxW W3 o 25 #[.int .i64 t, .bool u, .slice aa al.length ac, .int .i64 e, .int .i64 x, .slice oa os.length oc] := by rw [← hW3]; exact HB3.out.later (below_box _ _)
      have C3 : Hid (Below w.heap.size w W3) := by rw [← hW3]; exact B3.out.trans ((below_box w3 _).mono B3.out.size)
      have R3' := hid (R3.out.later (w' := W3) (by rw [← hW3]; exact below_box w3 _))
      obtain ⟨k0, k1, k2, k3, k4, k5⟩ := L3.cells
      obtain ⟨m0, m1, m2, m3, m4, m5⟩ := L4.cells
      have HL3 := hid L3
      have HL4 := hid L4
      clear L3 L4 R3 HB3
      go_wp2_with fail
      go_at_call 10
      clear hW3
      refine (sameRep_is _ _ _ W3 (HRI.out W3 C3.out) R3'.out).mono ?_
      rintro en w4 ⟨rfl, b4⟩
      have B4 : Hid (Below w.heap.size w w4) := C3.out.trans (b4.mono C3.out.size)
      have R4 := hid (R3'.out.later b4)
      clear k0 k1 k2 k3 k4 k5 m0 m1 m2 m3 m4 m5
      obtain ⟨k0, k1, k2, k3, k4, k5⟩ := (HL3.out.later b4).cells
      obtain ⟨m0, m1, m2, m3, m4, m5⟩ := (HL4.out.later b4).cells
      clear b4 R3' HL3 HL4
      go_wp2_with fail
      go_at_call 13
      refine (rpSame_is _ _ _ w4 (HRI.out w4 B4.out) R4.out).mono ?_
      rintro en w5 ⟨rfl, b5⟩
      have B5 : Hid (Below w.heap.size w w5) := B4.out.trans (b5.mono B4.out.size)
      clear b5
      go_wp2_with fail
      go_ret
      exact ⟨rfl, B5.out⟩
    · have hsz : ¬ ((s.size : Int) ≤ 20000) := by omega
      go_wp2_with fail
      go_ret
      exact ⟨rfl, B2.out⟩
  · go_wp2_with fail
    go_ret
    exact ⟨rfl, B2.out⟩
end Go.Proofs.YtkpomcimaofkkaaGreatDoor.Rp
namespace Go.Proofs.YtkpomcimaofkkaaGreatDoor.Rp
set_option linter.unusedVariables false
set_option linter.unusedSimpArgs false
open Go.RowKit Go.ChangeShapes Go.WideShapes

theorem Tryz.cells4r : Tryz.prog.cellsOf 4 = 1 := by kernel_rfl
theorem Tryz.cells3r : Tryz.prog.cellsOf 3 = 1 := by kernel_rfl
theorem Tryz.cells9r : Tryz.prog.cellsOf 9 = 1 := by kernel_rfl
theorem Tryz.cellsIr : Tryz.prog.cellsOf 23 = 1 := by kernel_rfl
theorem Tryz.cellsWr : Tryz.prog.cellsOf 66 = 1 := by kernel_rfl
theorem Tryz.cellsAr : Tryz.prog.cellsOf 22 = 1 := by kernel_rfl
theorem Tryz.cellsOW : Tryz.prog.cellsOf 108 = 8 := by kernel_rfl
theorem Tryz.cellsOA : Tryz.prog.cellsOf 68 = 9 := by kernel_rfl
theorem Tryz.cellsOR : Tryz.prog.cellsOf 25 = 6 := by kernel_rfl
theorem Tryz.bytes3r : Tryz.prog.bytesOf 3 = 8 := by kernel_rfl
theorem Tryz.bytesOW : Tryz.prog.bytesOf 108 = 64 := by kernel_rfl
theorem Tryz.bytesOA : Tryz.prog.bytesOf 68 = 96 := by kernel_rfl

section
variable {H : Type} {enc : TypeId × Value → H} {P : Program} {w : World} {base : Nat} {spare : Nat → Bool} {held : Bool}

theorem weightsAll_mem {e : TypeId} {n : Nat} {d : DataW H} : ∀ {ds : List (DataW H)}, d ∈ ds → n ∈ d.weights P e → n ∈ DataW.weightsAll P e ds
  | [], hd, _ => by simp at hd
  | x :: ds, hd, hn => by
    simp only [DataW.weightsAll, List.mem_append]
    rcases List.mem_cons.1 hd with rfl | hd
    · exact Or.inl hn
    · exact Or.inr (weightsAll_mem hd hn)

/-- A slice of elements of k cells, each of which can be read. -/
theorem rows_of_trod {α : Type} [Inhabited α] {t e : TypeId} {k bytes fuel : Nat} {R : List Value → α → Prop} {cs : List Value} {x : DataW H × List MemPlace}
    (ht : P.underlying t = some (.slice e)) (hk : P.cellsOf e = k) (hk0 : 0 < k) (hby : P.bytesOf e = bytes)
    (h : DataW.trod enc P w base spare held fuel t cs = some x) (hw : ∀ n ∈ x.1.weights P t, n ≤ reachBytes)
    (he : ∀ (n : Nat) (cs' : List Value) (y : DataW H × List MemPlace), cs'.length = k → DataW.trod enc P w base spare held n e cs' = some y → (∀ n ∈ y.1.weights P e, n ≤ reachBytes) → ∃ a : α, R cs' a) :
    ∃ v l, cs = [v] ∧ RowsIn k bytes R All w v l := by
  rcases Deep.open_slice ht h with ⟨rfl, rfl⟩ | ⟨a, len, cap, m, n, D, Pl, rfl, hb, hl, hm, hmm, rfl, hx⟩
  · exact ⟨_, [], rfl, none, 0, rfl, ⟨by simp, Nat.le_refl _⟩, fun h => by simp at h⟩
  · have hlm : len ≤ m := by rw [hmm]; split <;> omega
    rw [hk] at hx
    have key : ∀ i, i < len → ∃ q : α × List Value, q.2.length = k ∧ R q.2 q.1 ∧ ∀ j, j < k → w.cell? (a.add (i * k + j)) = q.2[j]? := fun i hi => by
      obtain ⟨cs', h1, h2⟩ := hx i (by omega)
      obtain ⟨_, hlen, hc⟩ := World.cells?_some h1
      obtain ⟨y, hy⟩ := he n cs' _ hlen h2 (fun q hq => hw q (by
        simp only [DataW.weights, ht, List.mem_cons, List.mem_append]
        exact Or.inr (Or.inl (weightsAll_mem (d := D i) (by simp; exact ⟨i, hi, rfl⟩) hq))))
      exact ⟨(y, cs'), hlen, hy, fun j hj => by rw [← Deep.add_add]; exact hc j hj⟩
    obtain ⟨f, hf⟩ := Deep.choose_lt (α := α × List Value) key
    refine ⟨_, (List.range len).map (fun i => (f i).1), rfl, some a, cap, by simp, ⟨?_, by simpa using hl⟩, fun h0 => ?_⟩
    · have := hw ((len + (m - len)) * P.bytesOf e) (by simp [DataW.weights, ht])
      rw [hby] at this
      simp only [List.length_map, List.length_range]
      have h2 : len * bytes ≤ (len + (m - len)) * bytes := Nat.mul_le_mul_right _ (by omega)
      have h3 : reachBytes ≤ 140737488355328 := by decide
      omega
    · simp only [List.length_map, List.length_range] at h0
      obtain ⟨b, off, spot⟩ := a
      have hspot : spot = none := by
        obtain ⟨h1, _, h3⟩ := hf 0 h0
        have := h3 0 hk0
        rw [List.getElem?_eq_getElem (by omega)] at this
        simpa [Addr.add] using World.cell?_spot this
      subst hspot
      refine ⟨b, off, rfl, trivial, fun j hj => ?_⟩
      simp only [List.length_map, List.length_range] at hj
      obtain ⟨h1, h2, h3⟩ := hf j hj
      refine ⟨(f j).2, h1, ?_, fun i u hi => ?_⟩
      · simpa [List.getD, hj] using h2
      · have hik : i < k := by rw [← h1]; exact (List.getElem?_eq_some_iff.1 hi).1
        have := h3 i hik
        rw [Addr.add_lit, hi] at this
        simpa [Nat.add_assoc] using this
end

/-- What holds of each row's element holds of each element. -/
theorem rows_all {α : Type} [Inhabited α] {k bytes : Nat} {R : List Value → α → Prop} {C : α → Prop} {S : Nat → Prop} {w : World} {v : Value} {l : List α} (h : RowsIn k bytes (fun cs a => R cs a ∧ C a) S w v l) : RowsIn k bytes R S w v l ∧ ∀ a ∈ l, C a := by
  obtain ⟨ao, c, hv, hl, hc⟩ := h
  refine ⟨⟨ao, c, hv, hl, fun h0 => ?_⟩, fun a ha => ?_⟩
  · obtain ⟨b, off, e1, e2, hj⟩ := hc h0
    refine ⟨b, off, e1, e2, fun j hlt => ?_⟩
    obtain ⟨cs, q1, q2, q3⟩ := hj j hlt
    exact ⟨cs, q1, q2.1, q3⟩
  · obtain ⟨j, hj, e⟩ := List.mem_iff_getElem.1 ha
    obtain ⟨b, off, _, _, hcc⟩ := hc (by omega)
    obtain ⟨cs, _, q2, _⟩ := hcc j hj
    have : l.getD j default = a := by simp [List.getD, List.getElem?_eq_getElem hj, e]
    rw [this] at q2
    exact q2.2


theorem wf_range {n : Int} (h : (Lit.int .i64 n).wf = true) : i64R n := by
  simp only [Lit.wf, Bool.and_eq_true, decide_eq_true_eq] at h
  exact h
theorem str_short {H : Type} {P : Program} {t : TypeId} {s : ByteArray} {d : DataW H} (ht : P.underlying t = some .string) (g : d = .lit (.string s.data.toList)) (hw : ∀ n ∈ d.weights P t, n ≤ reachBytes) : s.size ≤ 140737488355328 := by
  have := hw s.data.toList.length (by rw [g]; simp [DataW.weights, ht])
  rw [Array.length_toList] at this
  have h3 : reachBytes ≤ 140737488355328 := by decide
  exact Nat.le_trans this h3
section
variable {H : Type} {enc : TypeId × Value → H} {w : World} {base : Nat} {spare : Nat → Bool} {held : Bool}

/-- A list of ints. -/
theorem ints_of_trod {fuel : Nat} {cs : List Value} {x : DataW H × List MemPlace} (h : DataW.trod enc Tryz.prog w base spare held fuel 23 cs = some x) (hw : ∀ n ∈ x.1.weights Tryz.prog 23, n ≤ reachBytes) :
    ∃ v l, cs = [v] ∧ IntsIn All w v l ∧ ∀ a ∈ l, i64R a := by
  obtain ⟨v, l, hv, hr⟩ := rows_of_trod (R := fun cs (a : Int) => cs = [.int .i64 a] ∧ i64R a) (k := 1) (bytes := 8) Tryz.underlying23 Tryz.cells3r (by omega) Tryz.bytes3r h hw (fun n cs' y hlen hy _ => by
    obtain ⟨z, hz, _, hz2⟩ := DataW.trod_int Tryz.underlying3 hy
    exact ⟨z, hz, wf_range hz2⟩)
  obtain ⟨⟨ao, c, hvv, hl, hc⟩, hall⟩ := rows_all hr
  refine ⟨v, l, hv, ⟨ao, c, hvv, hl, fun h0 => ?_⟩, hall⟩
  obtain ⟨b, off, ha, _, hj⟩ := hc h0
  refine ⟨b, off, ha, trivial, fun j hlt => ?_⟩
  obtain ⟨cs', _, hcs, hcc⟩ := hj j hlt
  have := hcc 0 (.int .i64 (l.getD j default)) (by rw [hcs]; rfl)
  simpa using this

set_option maxRecDepth 10000 in
/-- A dependency's eight cells. -/
theorem why_of_trod (n : Nat) (cs : List Value) (y : DataW H × List MemPlace) (hlen : cs.length = 8) (h : DataW.trod enc Tryz.prog w base spare held n 108 cs = some y) (hw : ∀ n ∈ y.1.weights Tryz.prog 108, n ≤ reachBytes) :
    ∃ a : MW, cs = encW a ∧ InW a ∧ SmW a := by
  obtain ⟨xs, m, rfl, rfl, _, hxl, hf⟩ := DataW.trod_struct Tryz.underlying108 h
  match cs, hlen with
  | [c0, c1, c2, c3, c4, c5, c6, c7], _ =>
    match xs, hxl with
    | [x0, x1, x2, x3, x4, x5, x6, x7], _ =>
      have f0 := hf 0 _ rfl
      have f1 := hf 1 _ rfl
      have f2 := hf 2 _ rfl
      have f3 := hf 3 _ rfl
      have f4 := hf 4 _ rfl
      have f5 := hf 5 _ rfl
      have f6 := hf 6 _ rfl
      have f7 := hf 7 _ rfl
      simp [Tryz.cells3r, Tryz.cells4r, Tryz.cells9r] at f0 f1 f2 f3 f4 f5 f6 f7
      obtain ⟨k0, e0, _, w0⟩ := DataW.trod_int Tryz.underlying3 f0
      obtain ⟨k1, e1, _, w1⟩ := DataW.trod_int Tryz.underlying3 f1
      obtain ⟨k2, e2, _⟩ := DataW.trod_int Tryz.underlying3 f2
      obtain ⟨k3, e3, g3, _⟩ := DataW.trod_string Tryz.underlying9 f3
      obtain ⟨k4, e4, _, w4⟩ := DataW.trod_int Tryz.underlying3 f4
      obtain ⟨k5, e5, _, w5⟩ := DataW.trod_int Tryz.underlying3 f5
      obtain ⟨k6, e6, _⟩ := DataW.trod_bool Tryz.underlying4 f6
      obtain ⟨k7, e7, _⟩ := DataW.trod_bool Tryz.underlying4 f7
      have hk3 : k3.size ≤ 140737488355328 := str_short (P := Tryz.prog) Tryz.underlying9 (congrArg Prod.fst g3) (fun n hn => hw n (by
        simp only [DataW.weights, Tryz.underlying108]
        exact DataW.weights_mem_each (j := 3) rfl rfl n hn))
      simp at e0 e1 e2 e3 e4 e5 e6 e7
      subst e0 e1 e2 e3 e4 e5 e6 e7
      exact ⟨⟨k0, k1, k2, k3, k4, k5, k6, k7⟩, rfl, ⟨wf_range w0, wf_range w1, wf_range w4, wf_range w5⟩, hk3⟩

/-- Dependencies. -/
theorem whys_of_trod {fuel : Nat} {cs : List Value} {x : DataW H × List MemPlace} (h : DataW.trod enc Tryz.prog w base spare held fuel 66 cs = some x) (hw : ∀ n ∈ x.1.weights Tryz.prog 66, n ≤ reachBytes) :
    ∃ v l, cs = [v] ∧ WhysIn w v l ∧ ∀ a ∈ l, InW a ∧ SmW a := by
  obtain ⟨v, l, hv, hr⟩ := rows_of_trod (R := fun cs (a : MW) => cs = encW a ∧ (InW a ∧ SmW a)) (k := 8) (bytes := 64) Tryz.underlying66 Tryz.cellsOW (by omega) Tryz.bytesOW h hw why_of_trod
  obtain ⟨h1, hall⟩ := rows_all hr
  exact ⟨v, l, hv, h1, hall⟩

set_option maxRecDepth 10000 in
/-- An anomaly's nine cells. -/
theorem an_of_trod (n : Nat) (cs : List Value) (y : DataW H × List MemPlace) (hlen : cs.length = 9) (h : DataW.trod enc Tryz.prog w base spare held n 68 cs = some y) (hw : ∀ n ∈ y.1.weights Tryz.prog 68, n ≤ reachBytes) :
    ∃ a : MA, AnRow w cs a ∧ (InA a ∧ SmA a) := by
  obtain ⟨xs, m, rfl, rfl, _, hxl, hf⟩ := DataW.trod_struct Tryz.underlying68 h
  match cs, hlen with
  | [c0, c1, c2, c3, c4, c5, c6, c7, c8], _ =>
    match xs, hxl with
    | [x0, x1, x2, x3, x4, x5, x6, x7, x8], _ =>
      have f0 := hf 0 _ rfl
      have f1 := hf 1 _ rfl
      have f2 := hf 2 _ rfl
      have f3 := hf 3 _ rfl
      have f4 := hf 4 _ rfl
      have f5 := hf 5 _ rfl
      have f6 := hf 6 _ rfl
      have f7 := hf 7 _ rfl
      have f8 := hf 8 _ rfl
      simp [Tryz.cells3r, Tryz.cells4r, Tryz.cells9r, Tryz.cellsWr] at f0 f1 f2 f3 f4 f5 f6 f7 f8
      obtain ⟨k0, e0, _⟩ := DataW.trod_int Tryz.underlying3 f0
      obtain ⟨k1, e1, _, w1⟩ := DataW.trod_int Tryz.underlying3 f1
      obtain ⟨k2, e2, _, w2⟩ := DataW.trod_int Tryz.underlying3 f2
      obtain ⟨k3, e3, _, w3⟩ := DataW.trod_int Tryz.underlying3 f3
      obtain ⟨k4, e4, g4, _⟩ := DataW.trod_string Tryz.underlying9 f4
      obtain ⟨k5, e5, _, w5⟩ := DataW.trod_int Tryz.underlying3 f5
      obtain ⟨v6, k6, e6, l6, i6⟩ := whys_of_trod f6 (fun n hn => hw n (by
        simp only [DataW.weights, Tryz.underlying68]
        exact DataW.weights_mem_each (j := 6) rfl rfl n hn))
      obtain ⟨k7, e7, _⟩ := DataW.trod_bool Tryz.underlying4 f7
      obtain ⟨k8, e8, _⟩ := DataW.trod_int Tryz.underlying3 f8
      have hk4 : k4.size ≤ 140737488355328 := str_short (P := Tryz.prog) Tryz.underlying9 (congrArg Prod.fst g4) (fun n hn => hw n (by
        simp only [DataW.weights, Tryz.underlying68]
        exact DataW.weights_mem_each (j := 4) rfl rfl n hn))
      simp at e0 e1 e2 e3 e4 e5 e6 e7 e8
      subst e0 e1 e2 e3 e4 e5 e6 e7 e8
      exact ⟨⟨k0, k1, k2, k3, k4, k5, k6, k7, k8⟩, ⟨c6, rfl, l6⟩, ⟨wf_range w1, wf_range w2, wf_range w3, wf_range w5, fun x hx => (i6 x hx).1⟩, hk4, fun x hx => (i6 x hx).2⟩

/-- Anomalies. -/
theorem ans_of_trod {fuel : Nat} {cs : List Value} {x : DataW H × List MemPlace} (h : DataW.trod enc Tryz.prog w base spare held fuel 22 cs = some x) (hw : ∀ n ∈ x.1.weights Tryz.prog 22, n ≤ reachBytes) :
    ∃ v l, cs = [v] ∧ AnsIn w v l ∧ ∀ a ∈ l, InA a ∧ SmA a := by
  obtain ⟨v, l, hv, hr⟩ := rows_of_trod (R := fun cs (a : MA) => AnRow w cs a ∧ (InA a ∧ SmA a)) (k := 9) (bytes := 96) Tryz.underlying22 Tryz.cellsOA (by omega) Tryz.bytesOA h hw an_of_trod
  obtain ⟨h1, hall⟩ := rows_all hr
  exact ⟨v, l, hv, h1, hall⟩

set_option maxRecDepth 10000 in
/-- A report's six cells. -/
theorem rep_of_trod (n : Nat) (cs : List Value) (y : DataW H × List MemPlace) (hlen : cs.length = 6) (h : DataW.trod enc Tryz.prog w base spare held n 25 cs = some y) (hw : ∀ n ∈ y.1.weights Tryz.prog 25, n ≤ reachBytes) :
    ∃ r : MR, RepIn w (.agg cs.toArray) r ∧ InR r ∧ SmR r := by
  obtain ⟨xs, m, rfl, rfl, _, hxl, hf⟩ := DataW.trod_struct Tryz.underlying25 h
  match cs, hlen with
  | [c0, c1, c2, c3, c4, c5], _ =>
    match xs, hxl with
    | [x0, x1, x2, x3, x4, x5], _ =>
      have f0 := hf 0 _ rfl
      have f1 := hf 1 _ rfl
      have f2 := hf 2 _ rfl
      have f3 := hf 3 _ rfl
      have f4 := hf 4 _ rfl
      have f5 := hf 5 _ rfl
      simp [Tryz.cells3r, Tryz.cells4r, Tryz.cellsIr, Tryz.cellsAr] at f0 f1 f2 f3 f4 f5
      obtain ⟨k0, e0, _, w0⟩ := DataW.trod_int Tryz.underlying3 f0
      obtain ⟨k1, e1, _⟩ := DataW.trod_bool Tryz.underlying4 f1
      obtain ⟨v2, k2, e2, l2, i2⟩ := ans_of_trod f2 (fun n hn => hw n (by
        simp only [DataW.weights, Tryz.underlying25]
        exact DataW.weights_mem_each (j := 2) rfl rfl n hn))
      obtain ⟨k3, e3, _⟩ := DataW.trod_int Tryz.underlying3 f3
      obtain ⟨k4, e4, _⟩ := DataW.trod_int Tryz.underlying3 f4
      obtain ⟨v5, k5, e5, l5, i5⟩ := ints_of_trod f5 (fun n hn => hw n (by
        simp only [DataW.weights, Tryz.underlying25]
        exact DataW.weights_mem_each (j := 5) rfl rfl n hn))
      simp at e0 e1 e2 e3 e4 e5
      subst e0 e1 e2 e3 e4 e5
      exact ⟨⟨k0, k1, k2, k3, k4, k5⟩, ⟨c2, c5, rfl, l2, l5⟩, ⟨wf_range w0, fun a ha => (i2 a ha).1, i5⟩, fun a ha => (i2 a ha).2⟩
end
end Go.Proofs.YtkpomcimaofkkaaGreatDoor.Rp
