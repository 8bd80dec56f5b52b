/-
  Whether two anomalies are the same: the program's way, and the document's.
-/
import Derived.Test.YtampofijmepjjaaRs3
namespace Go.Proofs.Ytampofijmepjjaa
set_option linter.unusedVariables false
set_option linter.unusedSimpArgs false
open Go.RowKit Go.Lib
open Tx (RowsIn.cells RowCells)


theorem below_cell {w w' : World} {p : Addr} {v : Value} (h : Below w.heap.size w w') (hc : w.cell? p = some v) : w'.cell? p = some v := (h.cell (World.block_lt_of_cell? _ _ hc)).trans hc
set_option maxHeartbeats 8000000 in
set_option maxRecDepth 100000 in
theorem rSameAn_is (a b : MA) (cv dv : Value) (w : World) (ha : WhysIn w cv a.cyc) (hb : WhysIn w dv b.cyc) :
    Calls Try.prog 14 #[.agg (encA a cv).toArray, .agg (encA b dv).toArray] w fun e w' => e = .returned (.bool (aEq a b)) ∧ Below w.heap.size w w' := by
  obtain ⟨a1, a2, a3, a4, a5, a6, ac, a8, a9⟩ := a
  obtain ⟨b1, b2, b3, b4, b5, b6, bc, b8, b9⟩ := b
  simp only [MA.cyc] at ha hb
  obtain ⟨pa, pc, rfl, pl, pk⟩ := RowsIn.cells ha (by omega)
  obtain ⟨qa, qc, rfl, ql, qk⟩ := RowsIn.cells hb (by omega)
  have HA := hid ha
  have HB := hid hb
  have PK := hid pk
  have QK := hid qk
  clear ha hb pk qk
  simp only [encA]
  cases h0 : (a1 == b1)
  · have HF : aEq (a1, a2, a3, a4, a5, a6, ac, a8, a9) (b1, b2, b3, b4, b5, b6, bc, b8, b9) = false := by simp only [aEq, h0, Bool.false_and, Bool.true_and, Bool.and_false]
    rw [HF]
    clear HF
    have n0 : (a1 != b1) = true := by simp only [bne, h0, Bool.not_true, Bool.not_false]
    go_enter Try.func14, Try.ntmps14
    go_wp2
    go_ret
    exact ⟨rfl, below_2 _ _ _⟩
  cases h1 : (a2 == b2)
  · have HF : aEq (a1, a2, a3, a4, a5, a6, ac, a8, a9) (b1, b2, b3, b4, b5, b6, bc, b8, b9) = false := by simp only [aEq, h0, h1, Bool.false_and, Bool.true_and, Bool.and_false]
    rw [HF]
    clear HF
    have n0 : (a1 != b1) = false := by simp only [bne, h0, Bool.not_true, Bool.not_false]
    have n1 : (a2 != b2) = true := by simp only [bne, h1, Bool.not_true, Bool.not_false]
    go_enter Try.func14, Try.ntmps14
    go_wp2
    go_ret
    exact ⟨rfl, below_2 _ _ _⟩
  cases h2 : (a3 == b3)
  · have HF : aEq (a1, a2, a3, a4, a5, a6, ac, a8, a9) (b1, b2, b3, b4, b5, b6, bc, b8, b9) = false := by simp only [aEq, h0, h1, h2, Bool.false_and, Bool.true_and, Bool.and_false]
    rw [HF]
    clear HF
    have n0 : (a1 != b1) = false := by simp only [bne, h0, Bool.not_true, Bool.not_false]
    have n1 : (a2 != b2) = false := by simp only [bne, h1, Bool.not_true, Bool.not_false]
    have n2 : (a3 != b3) = true := by simp only [bne, h2, Bool.not_true, Bool.not_false]
    go_enter Try.func14, Try.ntmps14
    go_wp2
    go_ret
    exact ⟨rfl, below_2 _ _ _⟩
  cases h3 : (a4 == b4)
  · have HF : aEq (a1, a2, a3, a4, a5, a6, ac, a8, a9) (b1, b2, b3, b4, b5, b6, bc, b8, b9) = false := by simp only [aEq, h0, h1, h2, h3, Bool.false_and, Bool.true_and, Bool.and_false]
    rw [HF]
    clear HF
    have n0 : (a1 != b1) = false := by simp only [bne, h0, Bool.not_true, Bool.not_false]
    have n1 : (a2 != b2) = false := by simp only [bne, h1, Bool.not_true, Bool.not_false]
    have n2 : (a3 != b3) = false := by simp only [bne, h2, Bool.not_true, Bool.not_false]
    have n3 : (a4 != b4) = true := by simp only [bne, h3, Bool.not_true, Bool.not_false]
    go_enter Try.func14, Try.ntmps14
    go_wp2
    go_ret
    exact ⟨rfl, below_2 _ _ _⟩
  cases h4 : (a5.toList == b5.toList)
  · have HF : aEq (a1, a2, a3, a4, a5, a6, ac, a8, a9) (b1, b2, b3, b4, b5, b6, bc, b8, b9) = false := by simp only [aEq, h0, h1, h2, h3, h4, Bool.false_and, Bool.true_and, Bool.and_false]
    rw [HF]
    clear HF
    have n0 : (a1 != b1) = false := by simp only [bne, h0, Bool.not_true, Bool.not_false]
    have n1 : (a2 != b2) = false := by simp only [bne, h1, Bool.not_true, Bool.not_false]
    have n2 : (a3 != b3) = false := by simp only [bne, h2, Bool.not_true, Bool.not_false]
    have n3 : (a4 != b4) = false := by simp only [bne, h3, Bool.not_true, Bool.not_false]
    have n4 : (a5.toList != b5.toList) = true := by simp only [bne, h4, Bool.not_true, Bool.not_false]
    go_enter Try.func14, Try.ntmps14
    go_wp2
    go_ret
    exact ⟨rfl, below_2 _ _ _⟩
  cases h5 : (a6 == b6)
  · have HF : aEq (a1, a2, a3, a4, a5, a6, ac, a8, a9) (b1, b2, b3, b4, b5, b6, bc, b8, b9) = false := by simp only [aEq, h0, h1, h2, h3, h4, h5, Bool.false_and, Bool.true_and, Bool.and_false]
    rw [HF]
    clear HF
    have n0 : (a1 != b1) = false := by simp only [bne, h0, Bool.not_true, Bool.not_false]
    have n1 : (a2 != b2) = false := by simp only [bne, h1, Bool.not_true, Bool.not_false]
    have n2 : (a3 != b3) = false := by simp only [bne, h2, Bool.not_true, Bool.not_false]
    have n3 : (a4 != b4) = false := by simp only [bne, h3, Bool.not_true, Bool.not_false]
    have n4 : (a5.toList != b5.toList) = false := by simp only [bne, h4, Bool.not_true, Bool.not_false]
    have n5 : (a6 != b6) = true := by simp only [bne, h5, Bool.not_true, Bool.not_false]
    go_enter Try.func14, Try.ntmps14
    go_wp2
    go_ret
    exact ⟨rfl, below_2 _ _ _⟩
  cases h6 : (a8 == b8)
  · have HF : aEq (a1, a2, a3, a4, a5, a6, ac, a8, a9) (b1, b2, b3, b4, b5, b6, bc, b8, b9) = false := by simp only [aEq, h0, h1, h2, h3, h4, h5, h6, Bool.false_and, Bool.true_and, Bool.and_false]
    rw [HF]
    clear HF
    have n0 : (a1 != b1) = false := by simp only [bne, h0, Bool.not_true, Bool.not_false]
    have n1 : (a2 != b2) = false := by simp only [bne, h1, Bool.not_true, Bool.not_false]
    have n2 : (a3 != b3) = false := by simp only [bne, h2, Bool.not_true, Bool.not_false]
    have n3 : (a4 != b4) = false := by simp only [bne, h3, Bool.not_true, Bool.not_false]
    have n4 : (a5.toList != b5.toList) = false := by simp only [bne, h4, Bool.not_true, Bool.not_false]
    have n5 : (a6 != b6) = false := by simp only [bne, h5, Bool.not_true, Bool.not_false]
    have n6 : (a8 != b8) = true := by simp only [bne, h6, Bool.not_true, Bool.not_false]
    go_enter Try.func14, Try.ntmps14
    go_wp2
    go_ret
    exact ⟨rfl, below_2 _ _ _⟩
  cases h7 : (a9 == b9)
  · have HF : aEq (a1, a2, a3, a4, a5, a6, ac, a8, a9) (b1, b2, b3, b4, b5, b6, bc, b8, b9) = false := by simp only [aEq, h0, h1, h2, h3, h4, h5, h6, h7, Bool.false_and, Bool.true_and, Bool.and_false]
    rw [HF]
    clear HF
    have n0 : (a1 != b1) = false := by simp only [bne, h0, Bool.not_true, Bool.not_false]
    have n1 : (a2 != b2) = false := by simp only [bne, h1, Bool.not_true, Bool.not_false]
    have n2 : (a3 != b3) = false := by simp only [bne, h2, Bool.not_true, Bool.not_false]
    have n3 : (a4 != b4) = false := by simp only [bne, h3, Bool.not_true, Bool.not_false]
    have n4 : (a5.toList != b5.toList) = false := by simp only [bne, h4, Bool.not_true, Bool.not_false]
    have n5 : (a6 != b6) = false := by simp only [bne, h5, Bool.not_true, Bool.not_false]
    have n6 : (a8 != b8) = false := by simp only [bne, h6, Bool.not_true, Bool.not_false]
    have n7 : (a9 != b9) = true := by simp only [bne, h7, Bool.not_true, Bool.not_false]
    go_enter Try.func14, Try.ntmps14
    go_wp2
    go_ret
    exact ⟨rfl, below_2 _ _ _⟩
  have HT : Hid (aEq (a1, a2, a3, a4, a5, a6, ac, a8, a9) (b1, b2, b3, b4, b5, b6, bc, b8, b9) = whysEq ac bc) := by show _ = _; simp only [aEq, h0, h1, h2, h3, h4, h5, h6, h7, Bool.true_and]
  have n0 : (a1 != b1) = false := by simp only [bne, h0, Bool.not_true, Bool.not_false]
  have n1 : (a2 != b2) = false := by simp only [bne, h1, Bool.not_true, Bool.not_false]
  have n2 : (a3 != b3) = false := by simp only [bne, h2, Bool.not_true, Bool.not_false]
  have n3 : (a4 != b4) = false := by simp only [bne, h3, Bool.not_true, Bool.not_false]
  have n4 : (a5.toList != b5.toList) = false := by simp only [bne, h4, Bool.not_true, Bool.not_false]
  have n5 : (a6 != b6) = false := by simp only [bne, h5, Bool.not_true, Bool.not_false]
  have n6 : (a8 != b8) = false := by simp only [bne, h6, Bool.not_true, Bool.not_false]
  have n7 : (a9 != b9) = false := by simp only [bne, h7, Bool.not_true, Bool.not_false]
  by_cases hlen : ac.length = bc.length
  · obtain ⟨n, hn⟩ : ∃ n, ac.length = n := ⟨_, rfl⟩
    have hm : bc.length = n := by omega
    have HN : Hid (ac.length = n ∧ bc.length = n) := ⟨hn, hm⟩
    rw [hn] at HA PK pl
    rw [hm] at HB QK ql
    rw [hn, hm]
    have pl' : n * 64 ≤ 140737488355328 := pl.1
    clear hn hm hlen pl ql
    have nl : ((n : Int) != (n : Int)) = false := by simp
    obtain ⟨W, hW⟩ : ∃ W, ((w.alloc (.cells #[.int .i64 a1, .int .i64 a2, .int .i64 a3, .int .i64 a4, .string a5, .int .i64 a6, .slice pa n pc, .bool a8, .int .i64 a9] 29)).alloc (.cells #[.int .i64 b1, .int .i64 b2, .int .i64 b3, .int .i64 b4, .string b5, .int .i64 b6, .slice qa n qc, .bool b8, .int .i64 b9] 29)) = W := ⟨_, rfl⟩
    have BW : Hid (Below w.heap.size w W) := by rw [← hW]; exact below_2 _ _ _
    have c6a : W.cell? ⟨w.heap.size, 6, none⟩ = some (.slice pa n pc) := by rw [← hW]; simp
    have c6b : W.cell? ⟨w.heap.size + 1, 6, none⟩ = some (.slice qa n qc) := by rw [← hW]; simp
    have HW := hid hW
    clear hW
    go_enter Try.func14, Try.ntmps14
    go_wp2
    rw [HW.out]
    go_loopg [5, 72] n (fun g _ i wr => ∃ k : Nat, k ≤ n ∧ n - k ≤ g ∧ i = .int .i64 k ∧ Aside (∃ q, wr = W.drewN q) ∧ Aside (∀ j, j < k → wEq (ac.getD j default) (bc.getD j default) = true))
    case atStart => exact ⟨0, Nat.zero_le _, by omega, rfl, ⟨0, rfl⟩, fun j hj => absurd hj (Nat.not_lt_zero _)⟩
    case round =>
      obtain ⟨k, hk, hg, rfl, ⟨q, rfl⟩, A⟩ := hrel
      by_cases hlt : k < n
      · have hlti : (k : Int) < (n : Int) := by omega
        obtain ⟨g1, o1, cs1, rfl, -, -, e1, hca⟩ := PK.out k (by have := HN.out; omega)
        obtain ⟨g2, o2, cs2, rfl, -, -, e2, hcb⟩ := QK.out k (by have := HN.out; omega)
        generalize hX : ac.getD k default = X at e1
        generalize hY : bc.getD k default = Y at e2
        have HX' : Hid (ac.getD k default = X) := hX
        have HY' : Hid (bc.getD k default = Y) := hY
        clear hX hY
        have hn := fun w => neq_why X Y w
        obtain ⟨Q, hQ⟩ : ∃ Q, Q = wEq X Y := ⟨_, rfl⟩
        have HQ : Hid (wEq X Y = Q) := hQ.symm
        rw [← hQ] at hn
        clear hQ
        obtain ⟨x1, x2, x3, x4, x5, x6, x7, x8⟩ := X
        obtain ⟨y1, y2, y3, y4, y5, y6, y7, y8⟩ := Y
        simp only [encW] at e1 e2 hn
        subst e1 e2
        have u0 := below_cell BW.out (hca 0 _ rfl)
        have u1 := below_cell BW.out (hca 1 _ rfl)
        have u2 := below_cell BW.out (hca 2 _ rfl)
        have u3 := below_cell BW.out (hca 3 _ rfl)
        have u4 := below_cell BW.out (hca 4 _ rfl)
        have u5 := below_cell BW.out (hca 5 _ rfl)
        have u6 := below_cell BW.out (hca 6 _ rfl)
        have u7 := below_cell BW.out (hca 7 _ rfl)
        rw [Nat.add_zero] at u0
        have v0 := below_cell BW.out (hcb 0 _ rfl)
        have v1 := below_cell BW.out (hcb 1 _ rfl)
        have v2 := below_cell BW.out (hcb 2 _ rfl)
        have v3 := below_cell BW.out (hcb 3 _ rfl)
        have v4 := below_cell BW.out (hcb 4 _ rfl)
        have v5 := below_cell BW.out (hcb 5 _ rfl)
        have v6 := below_cell BW.out (hcb 6 _ rfl)
        have v7 := below_cell BW.out (hcb 7 _ rfl)
        rw [Nat.add_zero] at v0
        clear hca hcb
        cases Q with
        | true =>
          simp only [Bool.not_true] at hn
          go_wp2
          go_quiet (fail)
          go_wp2
          go_roundg (n - (k + 1))
          case measure => omega
          case rel =>
            refine ⟨k + 1, by omega, by omega, by go_num, ⟨_, rfl⟩, (show Aside _ from fun j hj => ?_)⟩
            by_cases e : j = k
            · subst e; rw [HX'.out, HY'.out]; exact HQ.out
            · exact A.out j (by omega)
        | false =>
          simp only [Bool.not_false] at hn
          go_wp2
          go_quiet (fail)
          go_wp2
          go_ret
          refine ⟨?_, BW.out.trans (below_dr (drew_drew _ _ _) |>.mono BW.out.size)⟩
          rw [HT.out, show whysEq ac bc = false from allEq_miss _ ac bc k (by have := HN.out; omega) (by rw [HX'.out, HY'.out]; exact HQ.out)]
          rfl
      · go_wp2
        go_ret
        refine ⟨?_, BW.out.trans ((below_dr rfl).mono BW.out.size)⟩
        rw [HT.out, show whysEq ac bc = true from allEq_hit _ ac bc (by have := HN.out; omega) (fun j hj => A.out j (by have := HN.out; omega))]
        rfl
  · have nl : ((ac.length : Int) != (bc.length : Int)) = true := by rw [bne_iff_ne]; omega
    have HE : Hid (whysEq ac bc = false) := allEq_len _ ac bc hlen
    go_enter Try.func14, Try.ntmps14
    go_wp2
    go_ret
    exact ⟨by rw [HT.out, HE.out]; rfl, below_2 _ _ _⟩
end Go.Proofs.Ytampofijmepjjaa
