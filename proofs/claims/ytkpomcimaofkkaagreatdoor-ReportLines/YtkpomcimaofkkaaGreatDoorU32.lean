/-
  Equal of dependencies.
  Whether two anomalies are the same: the program's way, and the document's.
  Whether two rows of anomalies are the same: EqualFunc, and the document's way.
  ReportReads: whether two reports are the same; a text's report, or its fault: both answer alike.
-/
import Derived.Test.YtkpomcimaofkkaaGreatDoorU3
import Derived.Test.YtkpomcimaofkkaaGreatDoorU18
import Derived.Test.YtkpomcimaofkkaaGreatDoorU11
import Derived.Test.YtkpomcimaofkkaaGreatDoorU31
namespace Go.Proofs.YtkpomcimaofkkaaGreatDoor.Rp
set_option linter.unusedVariables false
set_option linter.unusedSimpArgs false
open Go.RowKit Go.Lib


abbrev WCells (w : World) (ao : Option Addr) (l : List MW) (n : Nat) : Prop := Tx.RowCells 8 (fun cs x => cs = encW x) w ao l n
set_option maxHeartbeats 2000000 in
set_option maxRecDepth 100000 in
theorem eqWhy_walk (a1 a2 : Option Addr) (c1 c2 n : Nat) (xs ys : List MW) (w : World) (hx : xs.length = n) (hy : ys.length = n) (_hbig : n ≤ 9223372036854775807)
    (h1 : WCells w a1 xs n) (h2 : WCells w a2 ys n) :
    Calls Tryz.prog 88 #[.slice a1 n c1, .slice a2 n c2] w fun e w' => e = .returned (.bool (whysEq xs ys)) ∧ ∃ q, w' = w.drewN q := by
  have HX : Hid (xs.length = n) := hx
  have HY : Hid (ys.length = n) := hy
  have H1 := hid h1
  have H2 := hid h2
  clear hx hy h1 h2
  go_enter Tryz.func88, Tryz.ntmps88
  go_wp2
  go_loopg [5, 13] n (fun g _ i wr => ∃ k : Nat, k ≤ n ∧ n - k ≤ g ∧ i = .int .i64 k ∧ Aside (∃ q, wr = w.drewN q) ∧ Aside (∀ j, j < k → wEq (xs.getD j default) (ys.getD j default) = true))
  case atStart => exact ⟨0, Nat.zero_le _, by omega, rfl, ⟨0, rfl⟩, fun j hj => absurd hj (Nat.not_lt_zero _)⟩
  case round =>
    obtain ⟨k, hk, hg, rfl, ⟨q, rfl⟩, A⟩ := hrel
    by_cases hlt : k < n
    · have hlti : (k : Int) < (n : Int) := by omega
      obtain ⟨b1, o1, cs1, rfl, hb1, -, e1, hca⟩ := H1.out k hlt
      obtain ⟨b2, o2, cs2, rfl, hb2, -, e2, hcb⟩ := H2.out k hlt
      generalize hX : xs.getD k default = X at e1
      generalize hY : ys.getD k default = Y at e2
      have HX' : Hid (xs.getD k default = X) := hX
      have HY' : Hid (ys.getD k default = Y) := hY
      clear hX hY
      have hn := fun w => neq_why X Y w
      obtain ⟨Q, hQ⟩ : ∃ Q, Q = wEq X Y := ⟨_, rfl⟩
      have HQ : Hid (wEq X Y = Q) := hQ.symm
      rw [← hQ] at hn
      clear hQ
      obtain ⟨x1, x2, x3, x4, x5, x6, x7, x8⟩ := X
      obtain ⟨y1, y2, y3, y4, y5, y6, y7, y8⟩ := Y
      simp only [encW] at e1 e2 hn
      subst e1 e2
      have a0 := hca 0 _ rfl
      have a1 := hca 1 _ rfl
      have a2 := hca 2 _ rfl
      have a3 := hca 3 _ rfl
      have a4 := hca 4 _ rfl
      have a5 := hca 5 _ rfl
      have a6 := hca 6 _ rfl
      have a7 := hca 7 _ rfl
      rw [Nat.add_zero] at a0
      have b0 := hcb 0 _ rfl
      have b1 := hcb 1 _ rfl
      have b2 := hcb 2 _ rfl
      have b3 := hcb 3 _ rfl
      have b4 := hcb 4 _ rfl
      have b5 := hcb 5 _ rfl
      have b6 := hcb 6 _ rfl
      have b7 := hcb 7 _ rfl
      rw [Nat.add_zero] at b0
      clear hca hcb
      cases Q with
      | true =>
        simp only [Bool.not_true] at hn
        go_wp2
        go_quiet (fail)
        go_wp2
        go_roundg (n - (k + 1))
        case measure => omega
        case rel =>
          refine ⟨k + 1, by omega, by omega, by go_num, ⟨_, rfl⟩, (show Aside _ from fun j hj => ?_)⟩
          by_cases e : j = k
          · subst e; rw [HX'.out, HY'.out]; exact HQ.out
          · exact A.out j (by omega)
      | false =>
        simp only [Bool.not_false] at hn
        go_wp2
        go_quiet (fail)
        go_wp2
        go_ret
        refine ⟨?_, ⟨_, drew_drew _ _ _⟩⟩
        rw [show whysEq xs ys = false from allEq_miss _ xs ys k (by rw [HX.out]; exact hlt) (by rw [HX'.out, HY'.out]; exact HQ.out)]
        rfl
    · go_wp2
      go_ret
      refine ⟨?_, ⟨_, rfl⟩⟩
      rw [show whysEq xs ys = true from allEq_hit _ xs ys (by rw [HX.out, HY.out]) (fun j hj => A.out j (by rw [HX.out] at hj; omega))]
      rfl
theorem eqWhy_lens (a1 a2 : Option Addr) (c1 c2 n m : Nat) (w : World) (hnm : n ≠ m) :
    Calls Tryz.prog 88 #[.slice a1 n c1, .slice a2 m c2] w fun e w' => e = .returned (.bool false) ∧ ∃ q, w' = w.drewN q := by
  have hne : ((n : Int) != (m : Int)) = true := by rw [bne_iff_ne]; omega
  go_enter Tryz.func88, Tryz.ntmps88
  go_wp2
  go_ret
  exact ⟨rfl, 0, rfl⟩
theorem below_dr {w w' : World} {q : Nat} (h : w' = w.drewN q) : Below w.heap.size w w' := by rw [h]; exact ⟨rfl, rfl, rfl, Nat.le_refl _, fun _ _ => rfl⟩
/-- Equal of dependencies. -/
theorem eqWhy_any (v u : Value) (xs ys : List MW) (w : World) (h1 : WhysIn w v xs) (h2 : WhysIn w u ys) :
    Calls Tryz.prog 88 #[v, u] w fun e w' => e = .returned (.bool (whysEq xs ys)) ∧ Below w.heap.size w w' := by
  obtain ⟨a1, c1, rfl, l1, k1⟩ := Tx.RowsIn.cells h1 (by omega)
  obtain ⟨a2, c2, rfl, l2, k2⟩ := Tx.RowsIn.cells h2 (by omega)
  by_cases h : xs.length = ys.length
  · rw [← h] at k2 ⊢
    exact (eqWhy_walk a1 a2 c1 c2 xs.length xs ys w rfl h.symm (by omega) k1 k2).mono fun e w' ⟨he, q, hq⟩ => ⟨he, below_dr hq⟩
  · rw [show whysEq xs ys = false from allEq_len _ xs ys h]
    exact (eqWhy_lens a1 a2 c1 c2 _ _ w h).mono fun e w' ⟨he, q, hq⟩ => ⟨he, below_dr hq⟩
end Go.Proofs.YtkpomcimaofkkaaGreatDoor.Rp
namespace Go.Proofs.YtkpomcimaofkkaaGreatDoor.Rp
set_option linter.unusedVariables false
set_option linter.unusedSimpArgs false
open Go.RowKit Go.Lib


theorem below_2 (w : World) (x y : Obj) : Below w.heap.size w ((w.alloc x).alloc y) := ((Below.refl _ _).alloc (Nat.le_refl _) _).alloc (by show _ ≤ (w.heap.push _).size; simp) _

set_option maxHeartbeats 8000000 in
set_option maxRecDepth 100000 in
theorem sameAn_is (a b : MA) (cv dv : Value) (w : World) (ha : WhysIn w cv a.cyc) (hb : WhysIn w dv b.cyc) :
    Calls Tryz.prog 76 #[.agg (encA a cv).toArray, .agg (encA b dv).toArray] w fun e w' => e = .returned (.bool (aEq a b)) ∧ Below w.heap.size w w' := by
  obtain ⟨a1, a2, a3, a4, a5, a6, ac, a8, a9⟩ := a
  obtain ⟨b1, b2, b3, b4, b5, b6, bc, b8, b9⟩ := b
  simp only [MA.cyc] at ha hb
  obtain ⟨pa, pc, rfl, pl, pk⟩ := Tx.RowsIn.cells ha (by omega)
  obtain ⟨qa, qc, rfl, ql, qk⟩ := Tx.RowsIn.cells hb (by omega)
  have HA := hid ha
  have HB := hid hb
  have PK := hid pk
  have QK := hid qk
  clear ha hb pk qk
  simp only [encA]
  cases h0 : (a1 == b1)
  · have HF : aEq (a1, a2, a3, a4, a5, a6, ac, a8, a9) (b1, b2, b3, b4, b5, b6, bc, b8, b9) = false := by simp only [aEq, h0, Bool.false_and, Bool.true_and, Bool.and_false]
    rw [HF]
    clear HF
    go_enter Tryz.func76, Tryz.ntmps76
    go_wp2
    go_ret
    exact ⟨rfl, below_2 _ _ _⟩
  cases h1 : (a2 == b2)
  · have HF : aEq (a1, a2, a3, a4, a5, a6, ac, a8, a9) (b1, b2, b3, b4, b5, b6, bc, b8, b9) = false := by simp only [aEq, h0, h1, Bool.false_and, Bool.true_and, Bool.and_false]
    rw [HF]
    clear HF
    go_enter Tryz.func76, Tryz.ntmps76
    go_wp2
    go_ret
    exact ⟨rfl, below_2 _ _ _⟩
  cases h2 : (a3 == b3)
  · have HF : aEq (a1, a2, a3, a4, a5, a6, ac, a8, a9) (b1, b2, b3, b4, b5, b6, bc, b8, b9) = false := by simp only [aEq, h0, h1, h2, Bool.false_and, Bool.true_and, Bool.and_false]
    rw [HF]
    clear HF
    go_enter Tryz.func76, Tryz.ntmps76
    go_wp2
    go_ret
    exact ⟨rfl, below_2 _ _ _⟩
  cases h3 : (a4 == b4)
  · have HF : aEq (a1, a2, a3, a4, a5, a6, ac, a8, a9) (b1, b2, b3, b4, b5, b6, bc, b8, b9) = false := by simp only [aEq, h0, h1, h2, h3, Bool.false_and, Bool.true_and, Bool.and_false]
    rw [HF]
    clear HF
    go_enter Tryz.func76, Tryz.ntmps76
    go_wp2
    go_ret
    exact ⟨rfl, below_2 _ _ _⟩
  cases h4 : (a5.toList == b5.toList)
  · have HF : aEq (a1, a2, a3, a4, a5, a6, ac, a8, a9) (b1, b2, b3, b4, b5, b6, bc, b8, b9) = false := by simp only [aEq, h0, h1, h2, h3, h4, Bool.false_and, Bool.true_and, Bool.and_false]
    rw [HF]
    clear HF
    go_enter Tryz.func76, Tryz.ntmps76
    go_wp2
    go_ret
    exact ⟨rfl, below_2 _ _ _⟩
  cases h5 : (a6 == b6)
  · have HF : aEq (a1, a2, a3, a4, a5, a6, ac, a8, a9) (b1, b2, b3, b4, b5, b6, bc, b8, b9) = false := by simp only [aEq, h0, h1, h2, h3, h4, h5, Bool.false_and, Bool.true_and, Bool.and_false]
    rw [HF]
    clear HF
    go_enter Tryz.func76, Tryz.ntmps76
    go_wp2
    go_ret
    exact ⟨rfl, below_2 _ _ _⟩
  cases h6 : (a8 == b8)
  · have HF : aEq (a1, a2, a3, a4, a5, a6, ac, a8, a9) (b1, b2, b3, b4, b5, b6, bc, b8, b9) = false := by simp only [aEq, h0, h1, h2, h3, h4, h5, h6, Bool.false_and, Bool.true_and, Bool.and_false]
    rw [HF]
    clear HF
    go_enter Tryz.func76, Tryz.ntmps76
    go_wp2
    go_ret
    exact ⟨rfl, below_2 _ _ _⟩
  cases h7 : (a9 == b9)
  · have HF : aEq (a1, a2, a3, a4, a5, a6, ac, a8, a9) (b1, b2, b3, b4, b5, b6, bc, b8, b9) = false := by simp only [aEq, h0, h1, h2, h3, h4, h5, h6, h7, Bool.false_and, Bool.true_and, Bool.and_false]
    rw [HF]
    clear HF
    go_enter Tryz.func76, Tryz.ntmps76
    go_wp2
    go_ret
    exact ⟨rfl, below_2 _ _ _⟩
  have HT : Hid (aEq (a1, a2, a3, a4, a5, a6, ac, a8, a9) (b1, b2, b3, b4, b5, b6, bc, b8, b9) = whysEq ac bc) := by show _ = _; simp only [aEq, h0, h1, h2, h3, h4, h5, h6, h7, Bool.true_and]
  go_enter Tryz.func76, Tryz.ntmps76
  go_wp2_with (go_at_call 88; refine (eqWhy_any _ _ ac bc _ (HA.out.later (below_2 _ _ _)) (HB.out.later (below_2 _ _ _))).mono ?_; rintro e w1 ⟨rfl, hb1⟩; have B1 := hid hb1; clear hb1)
  go_ret
  exact ⟨by rw [HT.out]; rfl, (below_2 _ _ _).trans (B1.out.mono (below_2 _ _ _).size)⟩
end Go.Proofs.YtkpomcimaofkkaaGreatDoor.Rp
namespace Go.Proofs.YtkpomcimaofkkaaGreatDoor.Rp
set_option linter.unusedVariables false
set_option linter.unusedSimpArgs false
open Go.RowKit Go.Lib


theorem below_cell {w w' : World} {p : Addr} {x : Value} (hb : Below w.heap.size w w') (h : w.cell? p = some x) : w'.cell? p = some x := (hb.cell (p := p) (World.block_lt_of_cell? _ _ h)).trans h

set_option maxHeartbeats 8000000 in
set_option maxRecDepth 100000 in
theorem eqFA_walk (a1 a2 : Option Addr) (c1 c2 n : Nat) (xs ys : List MA) (w : World) (hx : xs.length = n) (hy : ys.length = n) (hbig : n * 96 ≤ 140737488355328)
    (h1 : Tx.RowCells 9 (AnRow w) w a1 xs n) (h2 : Tx.RowCells 9 (AnRow w) w a2 ys n) :
    Calls Tryz.prog 48 #[.slice a1 n c1, .slice a2 n c2, .func (.func 76) #[] #[]] w fun e w' => e = .returned (.bool (ansEq xs ys)) ∧ Below w.heap.size w w' := by
  have HX : Hid (xs.length = n) := hx
  have HY : Hid (ys.length = n) := hy
  have H1 := hid h1
  have H2 := hid h2
  clear hx hy h1 h2
  go_enter Tryz.func48, Tryz.ntmps48
  go_wp2
  go_loopg [7, 8, 9, 17] n (fun g _ _ _ i wr => ∃ k : Nat, k ≤ n ∧ n - k ≤ g ∧ i = .int .i64 k ∧ Aside (Below w.heap.size w wr) ∧ Aside (∀ j, j < k → aEq (xs.getD j default) (ys.getD j default) = true))
  case atStart => exact ⟨0, Nat.zero_le _, by omega, rfl, Below.refl _ _, fun j hj => absurd hj (Nat.not_lt_zero _)⟩
  case round =>
    obtain ⟨k, hk, hg, rfl, BK, A⟩ := hrel
    by_cases hlt : k < n
    · have hlti : (k : Int) < (n : Int) := by omega
      have hk0 : (0 : Int) ≤ (k : Int) := by omega
      obtain ⟨g1, o1, cs1, rfl, -, -, ⟨cv, e1, hw1⟩, hca⟩ := H1.out k hlt
      obtain ⟨g2, o2, cs2, rfl, -, -, ⟨dv, e2, hw2⟩, hcb⟩ := H2.out k hlt
      have W1 := hid hw1
      have W2 := hid hw2
      generalize hX : xs.getD k default = X at *
      generalize hY : ys.getD k default = Y at *
      have HX' : Hid (xs.getD k default = X) := hX
      have HY' : Hid (ys.getD k default = Y) := hY
      clear hX hY hw1 hw2
      obtain ⟨Q, hQ⟩ : ∃ Q, aEq X Y = Q := ⟨_, rfl⟩
      have HQ := hid hQ
      clear hQ
      obtain ⟨X1, X2, X3, X4, X5, X6, XC, X8, X9⟩ := X
      obtain ⟨Y1, Y2, Y3, Y4, Y5, Y6, YC, Y8, Y9⟩ := Y
      obtain ⟨pa, pc, hcv, -⟩ := id W1.out
      obtain ⟨qa, qc, hdv, -⟩ := id W2.out
      subst hcv
      subst hdv
      simp only [encA, MA.cyc] at e1 e2
      subst e1 e2
      have u0 := below_cell BK.out (hca 0 _ rfl)
      have u1 := below_cell BK.out (hca 1 _ rfl)
      have u2 := below_cell BK.out (hca 2 _ rfl)
      have u3 := below_cell BK.out (hca 3 _ rfl)
      have u4 := below_cell BK.out (hca 4 _ rfl)
      have u5 := below_cell BK.out (hca 5 _ rfl)
      have u6 := below_cell BK.out (hca 6 _ rfl)
      have u7 := below_cell BK.out (hca 7 _ rfl)
      have u8 := below_cell BK.out (hca 8 _ rfl)
      rw [Nat.add_zero] at u0
      have v0 := below_cell BK.out (hcb 0 _ rfl)
      have v1 := below_cell BK.out (hcb 1 _ rfl)
      have v2 := below_cell BK.out (hcb 2 _ rfl)
      have v3 := below_cell BK.out (hcb 3 _ rfl)
      have v4 := below_cell BK.out (hcb 4 _ rfl)
      have v5 := below_cell BK.out (hcb 5 _ rfl)
      have v6 := below_cell BK.out (hcb 6 _ rfl)
      have v7 := below_cell BK.out (hcb 7 _ rfl)
      have v8 := below_cell BK.out (hcb 8 _ rfl)
      rw [Nat.add_zero] at v0
      clear hca hcb
      have hgl1 : g1 < wr.heap.size := World.block_lt_of_cell? _ _ u0
      have hgl2 : g2 < wr.heap.size := World.block_lt_of_cell? _ _ v0
      have SA : Hid (∀ W, Below wr.heap.size wr W → Calls Tryz.prog 76 #[(.agg #[.int .i64 X1, .int .i64 X2, .int .i64 X3, .int .i64 X4, .string X5, .int .i64 X6, .slice pa XC.length pc, .bool X8, .int .i64 X9]), (.agg #[.int .i64 Y1, .int .i64 Y2, .int .i64 Y3, .int .i64 Y4, .string Y5, .int .i64 Y6, .slice qa YC.length qc, .bool Y8, .int .i64 Y9])] W fun e w' => e = .returned (.bool Q) ∧ Below W.heap.size W w') := fun W hb => by
        have := sameAn_is (X1, X2, X3, X4, X5, X6, XC, X8, X9) (Y1, Y2, Y3, Y4, Y5, Y6, YC, Y8, Y9) _ _ W (W1.out.later (BK.out.trans (hb.mono BK.out.size))) (W2.out.later (BK.out.trans (hb.mono BK.out.size)))
        rw [HQ.out] at this
        exact this
      cases Q with
      | true =>
        go_wp2_with (go_at_call 76; refine (SA.out _ (below_2 _ _ _)).mono ?_; rintro e w1 ⟨rfl, hb1⟩; have B1 := hid hb1; clear hb1)
        go_roundg (n - (k + 1))
        case measure => omega
        case rel =>
          refine ⟨k + 1, by omega, by omega, by go_num, (BK.out.trans (((below_2 wr _ _).trans (B1.out.mono (below_2 wr _ _).size)).mono BK.out.size)), (show Aside _ from fun j hj => ?_)⟩
          by_cases e : j = k
          · subst e; rw [HX'.out, HY'.out]; exact HQ.out
          · exact A.out j (by omega)
      | false =>
        go_wp2_with (go_at_call 76; refine (SA.out _ (below_2 _ _ _)).mono ?_; rintro e w1 ⟨rfl, hb1⟩; have B1 := hid hb1; clear hb1)
        go_ret
        refine ⟨?_, (BK.out.trans (((below_2 wr _ _).trans (B1.out.mono (below_2 wr _ _).size)).mono BK.out.size))⟩
        rw [show ansEq xs ys = false from allEq_miss _ xs ys k (by rw [HX.out]; exact hlt) (by rw [HX'.out, HY'.out]; exact HQ.out)]
        rfl
    · go_wp2
      go_ret
      refine ⟨?_, BK.out⟩
      rw [show ansEq xs ys = true from allEq_hit _ xs ys (by rw [HX.out, HY.out]) (fun j hj => A.out j (by rw [HX.out] at hj; omega))]
      rfl

theorem eqFA_lens (a1 a2 : Option Addr) (c1 c2 n m : Nat) (w : World) (hnm : n ≠ m) :
    Calls Tryz.prog 48 #[.slice a1 n c1, .slice a2 m c2, .func (.func 76) #[] #[]] w fun e w' => e = .returned (.bool false) ∧ w' = w := by
  have hne : ((n : Int) != (m : Int)) = true := by rw [bne_iff_ne]; omega
  go_enter Tryz.func48, Tryz.ntmps48
  go_wp2
  go_ret
  exact ⟨rfl, rfl⟩
theorem eqFA_any (v u : Value) (xs ys : List MA) (w : World) (h1 : AnsIn w v xs) (h2 : AnsIn w u ys) :
    Calls Tryz.prog 48 #[v, u, .func (.func 76) #[] #[]] w fun e w' => e = .returned (.bool (ansEq xs ys)) ∧ Below w.heap.size w w' := by
  obtain ⟨a1, c1, rfl, l1, k1⟩ := Tx.RowsIn.cells h1 (by omega)
  obtain ⟨a2, c2, rfl, l2, k2⟩ := Tx.RowsIn.cells h2 (by omega)
  by_cases h : xs.length = ys.length
  · rw [← h] at k2 ⊢
    exact eqFA_walk a1 a2 c1 c2 xs.length xs ys w rfl h.symm l1.1 k1 k2
  · rw [show ansEq xs ys = false from allEq_len _ xs ys h]
    exact (eqFA_lens a1 a2 c1 c2 _ _ w h).mono fun e w' ⟨he, hw⟩ => ⟨he, by rw [hw]; exact Below.refl _ _⟩
end Go.Proofs.YtkpomcimaofkkaaGreatDoor.Rp
namespace Go.Proofs.YtkpomcimaofkkaaGreatDoor.Rp
set_option linter.unusedVariables false
set_option linter.unusedSimpArgs false
open Go.RowKit Go.Lib

theorem RepV.inAll {S : Nat → Prop} {w : World} {v : Value} {r : MR} (h : RepV S w v r) : RepIn w v r := by
  obtain ⟨aa, ac, oa, oc, rfl, h1, h2⟩ := h
  refine ⟨_, _, rfl, RowsIn.keep h1 (by omega) (fun cs x q => ?_) (fun b _ _ => rfl) (fun _ _ _ => trivial), h2.keep (fun b _ _ => rfl) (fun _ _ _ => trivial)⟩
  obtain ⟨cv, q1, q2⟩ := q
  exact ⟨cv, q1, RowsIn.keep q2 (by omega) (fun _ _ h => h) (fun b _ _ => rfl) (fun _ _ _ => trivial)⟩
theorem ansIn_later {w w' : World} {v : Value} {l : List MA} (h : AnsIn w v l) (hb : Below w.heap.size w w') : AnsIn w' v l := by
  refine rows_later h (by omega) hb (fun cs a q => ?_)
  obtain ⟨cv, q1, q2⟩ := q
  exact ⟨cv, q1, rows_later q2 (by omega) hb (fun _ _ h => h)⟩
/-- The report of nothing. -/
abbrev nRep : MR := (0, false, [], 0, 0, [])
theorem repIn_nil (w : World) : RepIn w (.agg zRep) nRep := ⟨.slice none 0 0, .slice none 0 0, rfl, ⟨none, 0, rfl, by simp, fun h => by simp at h⟩, ⟨none, 0, rfl, by simp, fun h => by simp at h⟩⟩
theorem eqFA_pre (v u : Value) (xs ys : List MA) (w w' : World) (h1 : AnsIn w v xs) (h2 : AnsIn w u ys) (hb : Below w.heap.size w w') :
    Calls Tryz.prog 48 #[v, u, .func (.func 76) #[] #[]] w' fun e w'' => e = .returned (.bool (ansEq xs ys)) ∧ Below w'.heap.size w' w'' :=
  eqFA_any v u xs ys w' (ansIn_later h1 hb) (ansIn_later h2 hb)
/-- SameAnomalies. -/
theorem sameAns_is (v u : Value) (xs ys : List MA) (w : World) (h1 : AnsIn w v xs) (h2 : AnsIn w u ys) :
    Calls Tryz.prog 33 #[v, u] w fun e w' => e = .returned (.bool (ansEq xs ys)) ∧ Below w.heap.size w w' := by
  have H := hid (eqFA_any v u xs ys w h1 h2)
  clear h1 h2
  go_enter Tryz.func33, Tryz.ntmps33
  go_wp2_with (go_at_call 48; refine H.out.mono ?_; rintro e w1 ⟨rfl, hb1⟩; have B1 := hid hb1; clear hb1)
  go_ret
  exact ⟨rfl, B1.out⟩
set_option maxHeartbeats 8000000 in
set_option maxRecDepth 100000 in
/-- SameReport, of one report twice. -/
theorem sameRep_is (r : MR) (v u : Value) (w : World) (h1 : RepIn w v r) (h2 : RepIn w u r) :
    Calls Tryz.prog 10 #[v, u] w fun e w' => e = .returned (.bool true) ∧ Below w.heap.size w w' := by
  obtain ⟨t, b, al, x, y, os⟩ := r
  obtain ⟨av, ov, rfl, ha, ho⟩ := h1
  obtain ⟨bv, pv, rfl, hb, hp⟩ := h2
  obtain ⟨oa, oc, rfl, ol, ok⟩ := ho.cells
  obtain ⟨pa, pc, rfl, pl, pk⟩ := hp.cells
  obtain ⟨aa, ac, rfl, al1, ak⟩ := Tx.RowsIn.cells ha (by omega)
  obtain ⟨ba, bc, rfl, bl1, bk⟩ := Tx.RowsIn.cells hb (by omega)
  simp only [encR]
  have E0 : (t == t) = true := by simp
  have E1 : (b == b) = true := by simp
  have E2 : (x == x) = true := by simp
  have E3 : (y == y) = true := by simp
  have HA := hid ha
  have HB := hid hb
  have OK := hid ok
  have PK := hid pk
  have OL := hid ol
  clear ha hb ok pk ak bk ho hp ol pl al1 bl1
  have S32 : Hid (∀ W, Below w.heap.size w W → Calls Tryz.prog 32 #[.slice oa os.length oc, .slice pa os.length pc] W fun e w' => e = .returned (.bool true) ∧ Below W.heap.size W w') := fun W hW => by
    refine (slicesEqual_cells oa pa oc pc os.length os.length os os W rfl rfl (by have h := OL.out.1; dsimp only at h; omega) (OK.out.later hW) (PK.out.later hW)).mono ?_
    rintro e w' ⟨he, q, hq⟩
    refine ⟨by rw [he]; simp, ?_⟩
    rw [hq]
    exact below_drewN (Below.refl _ _) q
  have S33 : Hid (∀ W, Below w.heap.size w W → Calls Tryz.prog 33 #[.slice aa al.length ac, .slice ba al.length bc] W fun e w' => e = .returned (.bool true) ∧ Below W.heap.size W w') := fun W hW => by
    have h := sameAns_is _ _ al al W (ansIn_later HA.out hW) (ansIn_later HB.out hW)
    rw [show ansEq al al = true from allEq_refl _ aEq_refl al] at h
    exact h
  clear HA HB OK PK OL
  go_enter Tryz.func10, Tryz.ntmps10
  go_wp2_with fail
  go_at_call 32
  refine (S32.out _ (below_2 _ _ _)).mono ?_
  rintro e w1 ⟨rfl, hb1⟩
  have B1 : Hid (Below w.heap.size w w1) := (below_2 w _ _).trans (hb1.mono (below_2 w _ _).size)
  have L0 := ((box_new w #[.int .i64 t, .bool b, .slice aa al.length ac, .int .i64 x, .int .i64 y, .slice oa os.length oc] 25).later (below_box _ (.cells #[.int .i64 t, .bool b, .slice ba al.length bc, .int .i64 x, .int .i64 y, .slice pa os.length pc] 25))).later hb1
  have L1 := (box_new (w.alloc (.cells #[.int .i64 t, .bool b, .slice aa al.length ac, .int .i64 x, .int .i64 y, .slice oa os.length oc] 25)) #[.int .i64 t, .bool b, .slice ba al.length bc, .int .i64 x, .int .i64 y, .slice pa os.length pc] 25).later hb1
  rw [show (w.alloc (.cells #[.int .i64 t, .bool b, .slice aa al.length ac, .int .i64 x, .int .i64 y, .slice oa os.length oc] 25)).heap.size = w.heap.size + 1 by simp] at L1
  obtain ⟨-, -, k2, -, -, -⟩ := L0.cells
  obtain ⟨-, -, m2, -, -, -⟩ := L1.cells
  clear L0 L1 hb1
  go_wp2_with fail
  go_at_call 33
  refine (S33.out _ B1.out).mono ?_
  rintro e w2 ⟨rfl, hb2⟩
  have B2 : Hid (Below w.heap.size w w2) := B1.out.trans (hb2.mono B1.out.size)
  clear hb2
  go_wp2_with fail
  go_ret
  exact ⟨rfl, B2.out⟩
set_option maxHeartbeats 4000000 in
set_option maxRecDepth 100000 in
theorem reads_walk (s : ByteArray) (w : World) (te : TypeId) (pe : Value) (hv : w.cell? ⟨6, 0, none⟩ = some (.iface te pe)) (hN : NamesAt w) :
    Calls Tryz.prog 3 #[.string s] w fun e w' => e = .returned (.bool true) ∧ Below w.heap.size w w' := by
  have H7 := hid (parse_is s w te pe hv hN)
  have H8 := hid (dparse_is s)
  clear hv hN
  cases hO : parseQ s with
  | ok r =>
    rw [hO] at H7 H8
    clear hO
    go_enter Tryz.func3, Tryz.ntmps3
    go_wp2_with fail
    go_at_call 7
    refine H7.out.mono ?_
    rintro e w1 ⟨⟨v, rfl, hv1⟩, b1⟩
    have R1 := hid hv1.inAll
    have B1 := hid b1
    obtain ⟨aa, ac, oa, oc, rfl, -, -⟩ := id hv1
    obtain ⟨al, oo, el, -, -⟩ := id hv1.inAll
    clear hv1 b1 H7
    obtain ⟨t, b, xl, x, y, os⟩ := r
    simp only [encR] at *
    go_wp2_with fail
    go_at_call 8
    obtain ⟨W1, hW1⟩ : ∃ W1, w1.alloc (.cells #[.int .i64 t, .bool b, .slice aa xl.length ac, .int .i64 x, .int .i64 y, .slice oa os.length oc] 25) = W1 := ⟨_, rfl⟩
    have L1 : BoxW W1 w1.heap.size 25 #[.int .i64 t, .bool b, .slice aa xl.length ac, .int .i64 x, .int .i64 y, .slice oa os.length oc] := by rw [← hW1]; exact box_new _ _ _
    have C1 : Hid (Below w.heap.size w W1) := by rw [← hW1]; exact B1.out.trans ((below_box w1 _).mono B1.out.size)
    have R1' := hid (R1.out.later (w' := W1) (by rw [← hW1]; exact below_box w1 _))
    rw [hW1]
    clear hW1 B1 R1
    refine (H8.out W1).mono ?_
    rintro e w2 ⟨⟨v, rfl, hv2⟩, b2⟩
    have R2 := hid hv2.inAll
    have L2 := L1.later b2
    have B2 : Hid (Below w.heap.size w w2) := C1.out.trans (b2.mono C1.out.size)
    have R1'' := hid (R1'.out.later b2)
    obtain ⟨ba, bc, pa, pc, rfl, -, -⟩ := id hv2
    clear hv2 b2 L1 C1 R1' H8
    simp only [encR] at *
    go_wp2_with fail
    go_at_call 9
    obtain ⟨W2, hW2⟩ : ∃ W2, w2.alloc (.cells #[.int .i64 t, .bool b, .slice ba xl.length bc, .int .i64 x, .int .i64 y, .slice pa os.length pc] 25) = W2 := ⟨_, rfl⟩
    have L3 : BoxW W2 w2.heap.size 25 #[.int .i64 t, .bool b, .slice ba xl.length bc, .int .i64 x, .int .i64 y, .slice pa os.length pc] := by rw [← hW2]; exact box_new _ _ _
    have L4 : BoxW W2 w1.heap.size 25 #[.int .i64 t, .bool b, .slice aa xl.length ac, .int .i64 x, .int .i64 y, .slice oa os.length oc] := by rw [← hW2]; exact L2.later (below_box _ _)
    have C2 : Hid (Below w.heap.size w W2) := by rw [← hW2]; exact B2.out.trans ((below_box w2 _).mono B2.out.size)
    have R2' := hid (R2.out.later (w' := W2) (by rw [← hW2]; exact below_box w2 _))
    have R3' := hid (R1''.out.later (w' := W2) (by rw [← hW2]; exact below_box w2 _))
    rw [hW2]
    clear hW2 B2 R2 R1'' L2
    refine (is_nil W2).mono ?_
    rintro e w3 ⟨rfl, b3⟩
    have B3 : Hid (Below w.heap.size w w3) := C2.out.trans (b3.mono C2.out.size)
    have Q1 := hid (R3'.out.later b3)
    have Q2 := hid (R2'.out.later b3)
    obtain ⟨k0, k1, k2, k3, k4, k5⟩ := (L4.later b3).cells
    obtain ⟨m0, m1, m2, m3, m4, m5⟩ := (L3.later b3).cells
    clear L3 L4 b3 C2 R2' R3'
    go_wp2_with fail
    go_at_call 10
    refine (sameRep_is _ _ _ w3 Q1.out Q2.out).mono ?_
    rintro e w4 ⟨rfl, b4⟩
    have B4 : Hid (Below w.heap.size w w4) := B3.out.trans (b4.mono B3.out.size)
    clear b4
    go_wp2_with fail
    go_ret
    exact ⟨rfl, B4.out⟩
  | error f =>
    rw [hO] at H7 H8
    clear hO
    go_enter Tryz.func3, Tryz.ntmps3
    go_wp2_with fail
    go_at_call 7
    refine H7.out.mono ?_
    rintro e w1 ⟨rfl, b1⟩
    have B1 := hid b1
    clear b1 H7
    go_wp2_with fail
    go_at_call 8
    obtain ⟨W1, hW1⟩ : ∃ W1, w1.alloc (.cells zRep 25) = W1 := ⟨_, rfl⟩
    have L1 : BoxW W1 w1.heap.size 25 zRep := by rw [← hW1]; exact box_new _ _ _
    have C1 : Hid (Below w.heap.size w W1) := by rw [← hW1]; exact B1.out.trans ((below_box w1 _).mono B1.out.size)
    rw [hW1]
    clear hW1 B1
    refine (H8.out W1).mono ?_
    rintro e w2 ⟨rfl, b2⟩
    have L2 := L1.later b2
    have B2 : Hid (Below w.heap.size w w2) := C1.out.trans (b2.mono C1.out.size)
    clear b2 L1 C1 H8
    go_wp2_with fail
    go_at_call 9
    obtain ⟨W2, hW2⟩ : ∃ W2, w2.alloc (.cells zRep 25) = W2 := ⟨_, rfl⟩
    have L3 : BoxW W2 w2.heap.size 25 zRep := by rw [← hW2]; exact box_new _ _ _
    have L4 : BoxW W2 w1.heap.size 25 zRep := by rw [← hW2]; exact L2.later (below_box _ _)
    have C2 : Hid (Below w.heap.size w W2) := by rw [← hW2]; exact B2.out.trans ((below_box w2 _).mono B2.out.size)
    rw [hW2]
    clear hW2 B2 L2
    refine (is_fault f.1 f.2 W2).mono ?_
    rintro e w3 ⟨rfl, b3⟩
    have B3 : Hid (Below w.heap.size w w3) := C2.out.trans (b3.mono C2.out.size)
    obtain ⟨k0, k1, k2, k3, k4, k5⟩ := (L4.later b3).cells
    obtain ⟨m0, m1, m2, m3, m4, m5⟩ := (L3.later b3).cells
    clear L3 L4 b3 C2
    go_wp2_with fail
    go_at_call 10
    refine (sameRep_is nRep _ _ w3 (repIn_nil w3) (repIn_nil w3)).mono ?_
    rintro e w4 ⟨rfl, b4⟩
    have B4 : Hid (Below w.heap.size w w4) := B3.out.trans (b4.mono B3.out.size)
    clear b4
    go_wp2_with fail
    go_ret
    exact ⟨rfl, B4.out⟩
end Go.Proofs.YtkpomcimaofkkaaGreatDoor.Rp
