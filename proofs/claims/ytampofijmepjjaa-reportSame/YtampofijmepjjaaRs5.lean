/-
  Whether two rows of anomalies are the same: EqualFunc, and the document's way.
-/
import Derived.Test.YtampofijmepjjaaRs4
import Derived.Test.YtampofijmepjjaaIv
namespace Go.Proofs.Ytampofijmepjjaa
set_option linter.unusedVariables false
set_option linter.unusedSimpArgs false
open Go.RowKit Go.Lib
open Tx (RowsIn.cells RowCells)

theorem Try.mixedOrders : Try.prog.follows .mixedOrders = true := by kernel_rfl

set_option maxHeartbeats 8000000 in
set_option maxRecDepth 100000 in
theorem eqFA_walk (a1 a2 : Option Addr) (c1 c2 n : Nat) (xs ys : List MA) (w : World) (hx : xs.length = n) (hy : ys.length = n) (hbig : n * 96 ≤ 140737488355328)
    (h1 : RowCells 9 (AnRow w) w a1 xs n) (h2 : RowCells 9 (AnRow w) w a2 ys n) :
    Calls Try.prog 9 #[.slice a1 n c1, .slice a2 n c2, .func (.func 10) #[] #[]] w fun e w' => e = .returned (.bool (ansEq xs ys)) ∧ Below w.heap.size w w' := by
  have HX : Hid (xs.length = n) := hx
  have HY : Hid (ys.length = n) := hy
  have H1 := hid h1
  have H2 := hid h2
  clear hx hy h1 h2
  go_enter Try.func9, Try.ntmps9
  go_wp2
  go_loopg [7, 8, 9, 17] n (fun g _ _ _ i wr => ∃ k : Nat, k ≤ n ∧ n - k ≤ g ∧ i = .int .i64 k ∧ Aside (Below w.heap.size w wr) ∧ Aside (∀ j, j < k → aEq (xs.getD j default) (ys.getD j default) = true))
  case atStart => exact ⟨0, Nat.zero_le _, by omega, rfl, Below.refl _ _, fun j hj => absurd hj (Nat.not_lt_zero _)⟩
  case round =>
    obtain ⟨k, hk, hg, rfl, BK, A⟩ := hrel
    by_cases hlt : k < n
    · have hlti : (k : Int) < (n : Int) := by omega
      have hk0 : (0 : Int) ≤ (k : Int) := by omega
      obtain ⟨g1, o1, cs1, rfl, -, -, ⟨cv, e1, hw1⟩, hca⟩ := H1.out k hlt
      obtain ⟨g2, o2, cs2, rfl, -, -, ⟨dv, e2, hw2⟩, hcb⟩ := H2.out k hlt
      have W1 := hid hw1
      have W2 := hid hw2
      generalize hX : xs.getD k default = X at *
      generalize hY : ys.getD k default = Y at *
      have HX' : Hid (xs.getD k default = X) := hX
      have HY' : Hid (ys.getD k default = Y) := hY
      clear hX hY hw1 hw2
      obtain ⟨Q, hQ⟩ : ∃ Q, aEq X Y = Q := ⟨_, rfl⟩
      have HQ := hid hQ
      clear hQ
      obtain ⟨X1, X2, X3, X4, X5, X6, XC, X8, X9⟩ := X
      obtain ⟨Y1, Y2, Y3, Y4, Y5, Y6, YC, Y8, Y9⟩ := Y
      obtain ⟨pa, pc, hcv, -⟩ := id W1.out
      obtain ⟨qa, qc, hdv, -⟩ := id W2.out
      subst hcv
      subst hdv
      simp only [encA, MA.cyc] at e1 e2
      subst e1 e2
      have u0 := below_cell BK.out (hca 0 _ rfl)
      have u1 := below_cell BK.out (hca 1 _ rfl)
      have u2 := below_cell BK.out (hca 2 _ rfl)
      have u3 := below_cell BK.out (hca 3 _ rfl)
      have u4 := below_cell BK.out (hca 4 _ rfl)
      have u5 := below_cell BK.out (hca 5 _ rfl)
      have u6 := below_cell BK.out (hca 6 _ rfl)
      have u7 := below_cell BK.out (hca 7 _ rfl)
      have u8 := below_cell BK.out (hca 8 _ rfl)
      rw [Nat.add_zero] at u0
      have v0 := below_cell BK.out (hcb 0 _ rfl)
      have v1 := below_cell BK.out (hcb 1 _ rfl)
      have v2 := below_cell BK.out (hcb 2 _ rfl)
      have v3 := below_cell BK.out (hcb 3 _ rfl)
      have v4 := below_cell BK.out (hcb 4 _ rfl)
      have v5 := below_cell BK.out (hcb 5 _ rfl)
      have v6 := below_cell BK.out (hcb 6 _ rfl)
      have v7 := below_cell BK.out (hcb 7 _ rfl)
      have v8 := below_cell BK.out (hcb 8 _ rfl)
      rw [Nat.add_zero] at v0
      clear hca hcb
      have hgl1 : g1 < wr.heap.size := World.block_lt_of_cell? _ _ u0
      have hgl2 : g2 < wr.heap.size := World.block_lt_of_cell? _ _ v0
      have SA : Hid (∀ W, Below wr.heap.size wr W → Calls Try.prog 10 #[(.agg #[.int .i64 X1, .int .i64 X2, .int .i64 X3, .int .i64 X4, .string X5, .int .i64 X6, .slice pa XC.length pc, .bool X8, .int .i64 X9]), (.agg #[.int .i64 Y1, .int .i64 Y2, .int .i64 Y3, .int .i64 Y4, .string Y5, .int .i64 Y6, .slice qa YC.length qc, .bool Y8, .int .i64 Y9])] W fun e w' => e = .returned (.bool Q) ∧ Below W.heap.size W w') := fun W hb => by
        have := sameAn_is (X1, X2, X3, X4, X5, X6, XC, X8, X9) (Y1, Y2, Y3, Y4, Y5, Y6, YC, Y8, Y9) _ _ W (W1.out.later (BK.out.trans (hb.mono BK.out.size))) (W2.out.later (BK.out.trans (hb.mono BK.out.size)))
        rw [HQ.out] at this
        exact this
      cases Q with
      | true =>
        go_wp2_with (go_at_call 10; refine (SA.out _ (below_2 _ _ _)).mono ?_; rintro e w1 ⟨rfl, hb1⟩; have B1 := hid hb1; clear hb1)
        go_roundg (n - (k + 1))
        case measure => omega
        case rel =>
          refine ⟨k + 1, by omega, by omega, by go_num, (BK.out.trans (((below_2 wr _ _).trans (B1.out.mono (below_2 wr _ _).size)).mono BK.out.size)), (show Aside _ from fun j hj => ?_)⟩
          by_cases e : j = k
          · subst e; rw [HX'.out, HY'.out]; exact HQ.out
          · exact A.out j (by omega)
      | false =>
        go_wp2_with (go_at_call 10; refine (SA.out _ (below_2 _ _ _)).mono ?_; rintro e w1 ⟨rfl, hb1⟩; have B1 := hid hb1; clear hb1)
        go_ret
        refine ⟨?_, (BK.out.trans (((below_2 wr _ _).trans (B1.out.mono (below_2 wr _ _).size)).mono BK.out.size))⟩
        rw [show ansEq xs ys = false from allEq_miss _ xs ys k (by rw [HX.out]; exact hlt) (by rw [HX'.out, HY'.out]; exact HQ.out)]
        rfl
    · go_wp2
      go_ret
      refine ⟨?_, BK.out⟩
      rw [show ansEq xs ys = true from allEq_hit _ xs ys (by rw [HX.out, HY.out]) (fun j hj => A.out j (by rw [HX.out] at hj; omega))]
      rfl

set_option maxHeartbeats 8000000 in
set_option maxRecDepth 100000 in
theorem rAns_walk (a1 a2 : Option Addr) (c1 c2 n : Nat) (xs ys : List MA) (w : World) (hx : xs.length = n) (hy : ys.length = n) (hbig : n * 96 ≤ 140737488355328)
    (h1 : RowCells 9 (AnRow w) w a1 xs n) (h2 : RowCells 9 (AnRow w) w a2 ys n) :
    Calls Try.prog 12 #[.slice a1 n c1, .slice a2 n c2] w fun e w' => e = .returned (.bool (ansEq xs ys)) ∧ Below w.heap.size w w' := by
  have HX : Hid (xs.length = n) := hx
  have HY : Hid (ys.length = n) := hy
  have H1 := hid h1
  have H2 := hid h2
  clear hx hy h1 h2
  go_enter Try.func12, Try.ntmps12
  go_wp2
  go_loopg [5, 13] n (fun g _ i wr => ∃ k : Nat, k ≤ n ∧ n - k ≤ g ∧ i = .int .i64 k ∧ Aside (Below w.heap.size w wr) ∧ Aside (∀ j, j < k → aEq (xs.getD j default) (ys.getD j default) = true))
  case atStart => exact ⟨0, Nat.zero_le _, by omega, rfl, Below.refl _ _, fun j hj => absurd hj (Nat.not_lt_zero _)⟩
  case round =>
    obtain ⟨k, hk, hg, rfl, BK, A⟩ := hrel
    by_cases hlt : k < n
    · have hlti : (k : Int) < (n : Int) := by omega
      have hk0 : (0 : Int) ≤ (k : Int) := by omega
      obtain ⟨g1, o1, cs1, rfl, -, -, ⟨cv, e1, hw1⟩, hca⟩ := H1.out k hlt
      obtain ⟨g2, o2, cs2, rfl, -, -, ⟨dv, e2, hw2⟩, hcb⟩ := H2.out k hlt
      have W1 := hid hw1
      have W2 := hid hw2
      generalize hX : xs.getD k default = X at *
      generalize hY : ys.getD k default = Y at *
      have HX' : Hid (xs.getD k default = X) := hX
      have HY' : Hid (ys.getD k default = Y) := hY
      clear hX hY hw1 hw2
      obtain ⟨Q, hQ⟩ : ∃ Q, aEq X Y = Q := ⟨_, rfl⟩
      have HQ := hid hQ
      clear hQ
      obtain ⟨X1, X2, X3, X4, X5, X6, XC, X8, X9⟩ := X
      obtain ⟨Y1, Y2, Y3, Y4, Y5, Y6, YC, Y8, Y9⟩ := Y
      obtain ⟨pa, pc, hcv, -⟩ := id W1.out
      obtain ⟨qa, qc, hdv, -⟩ := id W2.out
      subst hcv
      subst hdv
      simp only [encA, MA.cyc] at e1 e2
      subst e1 e2
      have u0 := below_cell BK.out (hca 0 _ rfl)
      have u1 := below_cell BK.out (hca 1 _ rfl)
      have u2 := below_cell BK.out (hca 2 _ rfl)
      have u3 := below_cell BK.out (hca 3 _ rfl)
      have u4 := below_cell BK.out (hca 4 _ rfl)
      have u5 := below_cell BK.out (hca 5 _ rfl)
      have u6 := below_cell BK.out (hca 6 _ rfl)
      have u7 := below_cell BK.out (hca 7 _ rfl)
      have u8 := below_cell BK.out (hca 8 _ rfl)
      rw [Nat.add_zero] at u0
      have v0 := below_cell BK.out (hcb 0 _ rfl)
      have v1 := below_cell BK.out (hcb 1 _ rfl)
      have v2 := below_cell BK.out (hcb 2 _ rfl)
      have v3 := below_cell BK.out (hcb 3 _ rfl)
      have v4 := below_cell BK.out (hcb 4 _ rfl)
      have v5 := below_cell BK.out (hcb 5 _ rfl)
      have v6 := below_cell BK.out (hcb 6 _ rfl)
      have v7 := below_cell BK.out (hcb 7 _ rfl)
      have v8 := below_cell BK.out (hcb 8 _ rfl)
      rw [Nat.add_zero] at v0
      clear hca hcb
      have hgl1 : g1 < wr.heap.size := World.block_lt_of_cell? _ _ u0
      have hgl2 : g2 < wr.heap.size := World.block_lt_of_cell? _ _ v0
      have SA : Hid (∀ W, Below wr.heap.size wr W → Calls Try.prog 14 #[(.agg #[.int .i64 X1, .int .i64 X2, .int .i64 X3, .int .i64 X4, .string X5, .int .i64 X6, .slice pa XC.length pc, .bool X8, .int .i64 X9]), (.agg #[.int .i64 Y1, .int .i64 Y2, .int .i64 Y3, .int .i64 Y4, .string Y5, .int .i64 Y6, .slice qa YC.length qc, .bool Y8, .int .i64 Y9])] W fun e w' => e = .returned (.bool Q) ∧ Below W.heap.size W w') := fun W hb => by
        have := rSameAn_is (X1, X2, X3, X4, X5, X6, XC, X8, X9) (Y1, Y2, Y3, Y4, Y5, Y6, YC, Y8, Y9) _ _ W (W1.out.later (BK.out.trans (hb.mono BK.out.size))) (W2.out.later (BK.out.trans (hb.mono BK.out.size)))
        rw [HQ.out] at this
        exact this
      have UU : Hid True := trivial
      cases Q with
      | true =>
        go_wp2
        refine wp_region_ask Try.mixedOrders (by kernel_rfl) (fun val => { tmps := #[_, _, _, _, _, _, _, _, _, _, _, _, _, _, _, _, val 0, val 1, val 2, val 3, val 4, val 5, val 6, val 7, val 8, val 9, _], defers := [] }) (fun i v _ => match i with | 0 => v = .slice (some ⟨g1, o1, none⟩) n c1 | 1 => v = .int .i64 (k : Int) | 2 => v = .pointer (some ⟨g1, o1 + k * 9, none⟩) | 3 => v = (.agg #[.int .i64 X1, .int .i64 X2, .int .i64 X3, .int .i64 X4, .string X5, .int .i64 X6, .slice pa XC.length pc, .bool X8, .int .i64 X9]) | 4 => v = .slice (some ⟨g2, o2, none⟩) n c2 | 5 => v = .int .i64 (k : Int) | 6 => v = .pointer (some ⟨g2, o2 + k * 9, none⟩) | 7 => v = (.agg #[.int .i64 Y1, .int .i64 Y2, .int .i64 Y3, .int .i64 Y4, .string Y5, .int .i64 Y6, .slice qa YC.length qc, .bool Y8, .int .i64 Y9]) | 8 => v = .bool true | 9 => v = .bool (!true) | _ => True) (fun i => match i with | 0 => u16 | 1 => u17 | 2 => u18 | 3 => u19 | 4 => u20 | 5 => u21 | 6 => u22 | 7 => u23 | 8 => u24 | 9 => u25 | _ => undef) rfl (fun i v w w2 hv _ => hv) _ rfl ⟨?_, ?_, ?_, ?_, ?_, ?_, ?_, ?_, ?_, ?_, trivial⟩ ?_
        · exact ask_plain rfl (fun _ _ => rfl) (fun val W hb hd => does_value rfl rfl)
        · exact ask_plain rfl (fun _ _ => rfl) (fun val W hb hd => does_value rfl rfl)
        · refine ask_plain rfl (fun _ _ => rfl) (fun val W hb hd => ?_)
          have h0 : val 0 = .slice (some ⟨g1, o1, none⟩) n c1 := depsAll_get hd 0 rfl
          have h1 : val 1 = .int .i64 (k : Int) := depsAll_get hd 1 rfl
          refine does_value (v := .pointer (some ⟨g1, o1 + k * 9, none⟩)) ?_ rfl
          simp [execOp, Act.eval, h0, h1, go_sem, hlti, hk0]
        · refine ask_plain rfl (fun _ _ => rfl) (fun val W hb hd => ?_)
          have h0 : val 2 = .pointer (some ⟨g1, o1 + k * 9, none⟩) := depsAll_get hd 2 rfl
          have d0 := below_cell hb u0
          have d1 := below_cell hb u1
          have d2 := below_cell hb u2
          have d3 := below_cell hb u3
          have d4 := below_cell hb u4
          have d5 := below_cell hb u5
          have d6 := below_cell hb u6
          have d7 := below_cell hb u7
          have d8 := below_cell hb u8
          refine does_value (v := (.agg #[.int .i64 X1, .int .i64 X2, .int .i64 X3, .int .i64 X4, .string X5, .int .i64 X6, .slice pa XC.length pc, .bool X8, .int .i64 X9])) ?_ rfl
          simp [execOp, Act.eval, h0, go_sem, d0, d1, d2, d3, d4, d5, d6, d7, d8]
        · exact ask_plain rfl (fun _ _ => rfl) (fun val W hb hd => does_value rfl rfl)
        · exact ask_plain rfl (fun _ _ => rfl) (fun val W hb hd => does_value rfl rfl)
        · refine ask_plain rfl (fun _ _ => rfl) (fun val W hb hd => ?_)
          have h0 : val 4 = .slice (some ⟨g2, o2, none⟩) n c2 := depsAll_get hd 4 rfl
          have h1 : val 5 = .int .i64 (k : Int) := depsAll_get hd 5 rfl
          refine does_value (v := .pointer (some ⟨g2, o2 + k * 9, none⟩)) ?_ rfl
          simp [execOp, Act.eval, h0, h1, go_sem, hlti, hk0]
        · refine ask_plain rfl (fun _ _ => rfl) (fun val W hb hd => ?_)
          have h0 : val 6 = .pointer (some ⟨g2, o2 + k * 9, none⟩) := depsAll_get hd 6 rfl
          have d0 := below_cell hb v0
          have d1 := below_cell hb v1
          have d2 := below_cell hb v2
          have d3 := below_cell hb v3
          have d4 := below_cell hb v4
          have d5 := below_cell hb v5
          have d6 := below_cell hb v6
          have d7 := below_cell hb v7
          have d8 := below_cell hb v8
          refine does_value (v := (.agg #[.int .i64 Y1, .int .i64 Y2, .int .i64 Y3, .int .i64 Y4, .string Y5, .int .i64 Y6, .slice qa YC.length qc, .bool Y8, .int .i64 Y9])) ?_ rfl
          simp [execOp, Act.eval, h0, go_sem, d0, d1, d2, d3, d4, d5, d6, d7, d8]
        · refine ask_plain rfl (fun _ _ => rfl) (fun val W hb hd => ?_)
          have h3 : val 3 = (.agg #[.int .i64 X1, .int .i64 X2, .int .i64 X3, .int .i64 X4, .string X5, .int .i64 X6, .slice pa XC.length pc, .bool X8, .int .i64 X9]) := depsAll_get hd 3 rfl
          have h7 : val 7 = (.agg #[.int .i64 Y1, .int .i64 Y2, .int .i64 Y3, .int .i64 Y4, .string Y5, .int .i64 Y6, .slice qa YC.length qc, .bool Y8, .int .i64 Y9]) := depsAll_get hd 7 rfl
          refine does_call (f := 14) (args := #[(.agg #[.int .i64 X1, .int .i64 X2, .int .i64 X3, .int .i64 X4, .string X5, .int .i64 X6, .slice pa XC.length pc, .bool X8, .int .i64 X9]), (.agg #[.int .i64 Y1, .int .i64 Y2, .int .i64 Y3, .int .i64 Y4, .string Y5, .int .i64 Y6, .slice qa YC.length qc, .bool Y8, .int .i64 Y9])]) ?_ (SA.out W hb) (fun e w2 h => ⟨_, h.1, rfl, h.2⟩)
          simp [execOp, Act.eval, h3, h7, go_sem]
        · refine ask_plain rfl (fun _ _ => rfl) (fun val W hb hd => ?_)
          have h8 : val 8 = .bool true := depsAll_get hd 8 rfl
          refine does_value (v := .bool (!true)) ?_ rfl
          simp [execOp, Act.eval, h8, go_sem]
        intro val W hbW hR
        have h9 : val 9 = .bool (!true) := hR 9 (by decide)
        rw [show (!true) = false from rfl] at h9
        have BWW := hid hbW
        clear hR hbW
        go_wp2
        rw [h9]
        go_wp2
        go_roundg (n - (k + 1))
        case measure => omega
        case rel =>
          refine ⟨k + 1, by omega, by omega, by go_num, (BK.out.trans (BWW.out.mono BK.out.size)), (show Aside _ from fun j hj => ?_)⟩
          by_cases e : j = k
          · subst e; rw [HX'.out, HY'.out]; exact HQ.out
          · exact A.out j (by omega)
      | false =>
        go_wp2
        refine wp_region_ask Try.mixedOrders (by kernel_rfl) (fun val => { tmps := #[_, _, _, _, _, _, _, _, _, _, _, _, _, _, _, _, val 0, val 1, val 2, val 3, val 4, val 5, val 6, val 7, val 8, val 9, _], defers := [] }) (fun i v _ => match i with | 0 => v = .slice (some ⟨g1, o1, none⟩) n c1 | 1 => v = .int .i64 (k : Int) | 2 => v = .pointer (some ⟨g1, o1 + k * 9, none⟩) | 3 => v = (.agg #[.int .i64 X1, .int .i64 X2, .int .i64 X3, .int .i64 X4, .string X5, .int .i64 X6, .slice pa XC.length pc, .bool X8, .int .i64 X9]) | 4 => v = .slice (some ⟨g2, o2, none⟩) n c2 | 5 => v = .int .i64 (k : Int) | 6 => v = .pointer (some ⟨g2, o2 + k * 9, none⟩) | 7 => v = (.agg #[.int .i64 Y1, .int .i64 Y2, .int .i64 Y3, .int .i64 Y4, .string Y5, .int .i64 Y6, .slice qa YC.length qc, .bool Y8, .int .i64 Y9]) | 8 => v = .bool false | 9 => v = .bool (!false) | _ => True) (fun i => match i with | 0 => u16 | 1 => u17 | 2 => u18 | 3 => u19 | 4 => u20 | 5 => u21 | 6 => u22 | 7 => u23 | 8 => u24 | 9 => u25 | _ => undef) rfl (fun i v w w2 hv _ => hv) _ rfl ⟨?_, ?_, ?_, ?_, ?_, ?_, ?_, ?_, ?_, ?_, trivial⟩ ?_
        · exact ask_plain rfl (fun _ _ => rfl) (fun val W hb hd => does_value rfl rfl)
        · exact ask_plain rfl (fun _ _ => rfl) (fun val W hb hd => does_value rfl rfl)
        · refine ask_plain rfl (fun _ _ => rfl) (fun val W hb hd => ?_)
          have h0 : val 0 = .slice (some ⟨g1, o1, none⟩) n c1 := depsAll_get hd 0 rfl
          have h1 : val 1 = .int .i64 (k : Int) := depsAll_get hd 1 rfl
          refine does_value (v := .pointer (some ⟨g1, o1 + k * 9, none⟩)) ?_ rfl
          simp [execOp, Act.eval, h0, h1, go_sem, hlti, hk0]
        · refine ask_plain rfl (fun _ _ => rfl) (fun val W hb hd => ?_)
          have h0 : val 2 = .pointer (some ⟨g1, o1 + k * 9, none⟩) := depsAll_get hd 2 rfl
          have d0 := below_cell hb u0
          have d1 := below_cell hb u1
          have d2 := below_cell hb u2
          have d3 := below_cell hb u3
          have d4 := below_cell hb u4
          have d5 := below_cell hb u5
          have d6 := below_cell hb u6
          have d7 := below_cell hb u7
          have d8 := below_cell hb u8
          refine does_value (v := (.agg #[.int .i64 X1, .int .i64 X2, .int .i64 X3, .int .i64 X4, .string X5, .int .i64 X6, .slice pa XC.length pc, .bool X8, .int .i64 X9])) ?_ rfl
          simp [execOp, Act.eval, h0, go_sem, d0, d1, d2, d3, d4, d5, d6, d7, d8]
        · exact ask_plain rfl (fun _ _ => rfl) (fun val W hb hd => does_value rfl rfl)
        · exact ask_plain rfl (fun _ _ => rfl) (fun val W hb hd => does_value rfl rfl)
        · refine ask_plain rfl (fun _ _ => rfl) (fun val W hb hd => ?_)
          have h0 : val 4 = .slice (some ⟨g2, o2, none⟩) n c2 := depsAll_get hd 4 rfl
          have h1 : val 5 = .int .i64 (k : Int) := depsAll_get hd 5 rfl
          refine does_value (v := .pointer (some ⟨g2, o2 + k * 9, none⟩)) ?_ rfl
          simp [execOp, Act.eval, h0, h1, go_sem, hlti, hk0]
        · refine ask_plain rfl (fun _ _ => rfl) (fun val W hb hd => ?_)
          have h0 : val 6 = .pointer (some ⟨g2, o2 + k * 9, none⟩) := depsAll_get hd 6 rfl
          have d0 := below_cell hb v0
          have d1 := below_cell hb v1
          have d2 := below_cell hb v2
          have d3 := below_cell hb v3
          have d4 := below_cell hb v4
          have d5 := below_cell hb v5
          have d6 := below_cell hb v6
          have d7 := below_cell hb v7
          have d8 := below_cell hb v8
          refine does_value (v := (.agg #[.int .i64 Y1, .int .i64 Y2, .int .i64 Y3, .int .i64 Y4, .string Y5, .int .i64 Y6, .slice qa YC.length qc, .bool Y8, .int .i64 Y9])) ?_ rfl
          simp [execOp, Act.eval, h0, go_sem, d0, d1, d2, d3, d4, d5, d6, d7, d8]
        · refine ask_plain rfl (fun _ _ => rfl) (fun val W hb hd => ?_)
          have h3 : val 3 = (.agg #[.int .i64 X1, .int .i64 X2, .int .i64 X3, .int .i64 X4, .string X5, .int .i64 X6, .slice pa XC.length pc, .bool X8, .int .i64 X9]) := depsAll_get hd 3 rfl
          have h7 : val 7 = (.agg #[.int .i64 Y1, .int .i64 Y2, .int .i64 Y3, .int .i64 Y4, .string Y5, .int .i64 Y6, .slice qa YC.length qc, .bool Y8, .int .i64 Y9]) := depsAll_get hd 7 rfl
          refine does_call (f := 14) (args := #[(.agg #[.int .i64 X1, .int .i64 X2, .int .i64 X3, .int .i64 X4, .string X5, .int .i64 X6, .slice pa XC.length pc, .bool X8, .int .i64 X9]), (.agg #[.int .i64 Y1, .int .i64 Y2, .int .i64 Y3, .int .i64 Y4, .string Y5, .int .i64 Y6, .slice qa YC.length qc, .bool Y8, .int .i64 Y9])]) ?_ (SA.out W hb) (fun e w2 h => ⟨_, h.1, rfl, h.2⟩)
          simp [execOp, Act.eval, h3, h7, go_sem]
        · refine ask_plain rfl (fun _ _ => rfl) (fun val W hb hd => ?_)
          have h8 : val 8 = .bool false := depsAll_get hd 8 rfl
          refine does_value (v := .bool (!false)) ?_ rfl
          simp [execOp, Act.eval, h8, go_sem]
        intro val W hbW hR
        have h9 : val 9 = .bool (!false) := hR 9 (by decide)
        rw [show (!false) = true from rfl] at h9
        have BWW := hid hbW
        clear hR hbW
        go_wp2
        rw [h9]
        go_wp2
        go_ret
        refine ⟨?_, (BK.out.trans (BWW.out.mono BK.out.size))⟩
        rw [show ansEq xs ys = false from allEq_miss _ xs ys k (by rw [HX.out]; exact hlt) (by rw [HX'.out, HY'.out]; exact HQ.out)]
        rfl
    · go_wp2
      go_ret
      refine ⟨?_, BK.out⟩
      rw [show ansEq xs ys = true from allEq_hit _ xs ys (by rw [HX.out, HY.out]) (fun j hj => A.out j (by rw [HX.out] at hj; omega))]
      rfl

theorem eqFA_lens (a1 a2 : Option Addr) (c1 c2 n m : Nat) (w : World) (hnm : n ≠ m) :
    Calls Try.prog 9 #[.slice a1 n c1, .slice a2 m c2, .func (.func 10) #[] #[]] w fun e w' => e = .returned (.bool false) ∧ w' = w := by
  have hne : ((n : Int) != (m : Int)) = true := by rw [bne_iff_ne]; omega
  go_enter Try.func9, Try.ntmps9
  go_wp2
  go_ret
  exact ⟨rfl, rfl⟩
theorem eqFA_any (v u : Value) (xs ys : List MA) (w : World) (h1 : AnsIn w v xs) (h2 : AnsIn w u ys) :
    Calls Try.prog 9 #[v, u, .func (.func 10) #[] #[]] w fun e w' => e = .returned (.bool (ansEq xs ys)) ∧ Below w.heap.size w w' := by
  obtain ⟨a1, c1, rfl, l1, k1⟩ := RowsIn.cells h1 (by omega)
  obtain ⟨a2, c2, rfl, l2, k2⟩ := RowsIn.cells h2 (by omega)
  by_cases h : xs.length = ys.length
  · rw [← h] at k2 ⊢
    exact eqFA_walk a1 a2 c1 c2 xs.length xs ys w rfl h.symm l1.1 k1 k2
  · rw [show ansEq xs ys = false from allEq_len _ xs ys h]
    exact (eqFA_lens a1 a2 c1 c2 _ _ w h).mono fun e w' ⟨he, hw⟩ => ⟨he, by rw [hw]; exact Below.refl _ _⟩

theorem rAns_lens (a1 a2 : Option Addr) (c1 c2 n m : Nat) (w : World) (hnm : n ≠ m) :
    Calls Try.prog 12 #[.slice a1 n c1, .slice a2 m c2] w fun e w' => e = .returned (.bool false) ∧ w' = w := by
  have hne : ((n : Int) != (m : Int)) = true := by rw [bne_iff_ne]; omega
  go_enter Try.func12, Try.ntmps12
  go_wp2
  go_ret
  exact ⟨rfl, rfl⟩
theorem rAns_any (v u : Value) (xs ys : List MA) (w : World) (h1 : AnsIn w v xs) (h2 : AnsIn w u ys) :
    Calls Try.prog 12 #[v, u] w fun e w' => e = .returned (.bool (ansEq xs ys)) ∧ Below w.heap.size w w' := by
  obtain ⟨a1, c1, rfl, l1, k1⟩ := RowsIn.cells h1 (by omega)
  obtain ⟨a2, c2, rfl, l2, k2⟩ := RowsIn.cells h2 (by omega)
  by_cases h : xs.length = ys.length
  · rw [← h] at k2 ⊢
    exact rAns_walk a1 a2 c1 c2 xs.length xs ys w rfl h.symm l1.1 k1 k2
  · rw [show ansEq xs ys = false from allEq_len _ xs ys h]
    exact (rAns_lens a1 a2 c1 c2 _ _ w h).mono fun e w' ⟨he, hw⟩ => ⟨he, by rw [hw]; exact Below.refl _ _⟩
end Go.Proofs.Ytampofijmepjjaa
