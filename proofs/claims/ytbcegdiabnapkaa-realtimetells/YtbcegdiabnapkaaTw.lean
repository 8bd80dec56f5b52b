/-
  RealtimeTells.
-/
import Derived.Test.YtbcegdiabnapkaaTe
namespace Go.Proofs.Ytbcegdiabnapkaa
set_option linter.unusedVariables false
set_option linter.unusedSimpArgs false
open Go.RowKit Go.Lib

set_option maxHeartbeats 8000000 in
set_option maxRecDepth 100000 in
theorem tells_walk {S : Nat → Prop} (v : Value) (l : List MTxn) (w : World) (h : TxnsIn S w v l) :
    Calls Try.prog 3 #[v] w fun e w' => e = .returned (.bool true) ∧ Below w.heap.size w w' := by
  have mixed : Try.prog.follows .mixedOrders = true := by kernel_rfl
  have H := hid h
  clear h
  go_enter Try.func3, Try.ntmps3
  go_wp2_with fail
  go_at_call 8
  refine (small_any v l w H.out).mono ?_
  rintro e w1 ⟨v1, rfl, hv1, hb1⟩
  have h40 : (smallL l).length ≤ 40 := by unfold smallL; simp; omega
  obtain ⟨ao, c, f, rfl, hlc, hby, hLt, hf⟩ := hv1.lt
  generalize smallL l = sl at *
  have I1 := hid hv1.ins
  have L1 := hid hLt
  have B1 := hid hb1
  have F1 := hid hf
  clear hv1 hLt hb1 H hf
  go_wp2_with fail
  go_at_call 9
  refine (txns_any _ sl w1 I1.out).mono ?_
  rintro e w2 ⟨v2, rfl, hv2, hb2⟩
  obtain ⟨ag, cg, fg, rfl, hlcg, hbyg, hLg, hfg⟩ := hv2.lt
  have I2 := hid hv2.ins
  have I12 := hid (I1.out.below hb2)
  have L2 := hid (L1.out.later hb2)
  have G2 := hid hLg
  have B2 := hid (B1.out.trans (hb2.mono B1.out.size))
  have AK : Hid (Alike fg f sl.length) := fun j hj => by
    obtain ⟨-, p1, p2, p3⟩ := F1.out j hj
    obtain ⟨-, q1, q2, q3⟩ := hfg j hj
    exact ⟨q1.trans p1.symm, q2.trans p2.symm, by first | exact q3.trans p3.symm | exact q3.1.trans p3.1.symm⟩
  have TE : Hid (∀ W, Below w2.heap.size w2 W → Calls Try.prog 17 #[.slice ag sl.length cg, .slice ao sl.length c] W fun e w' => e = .returned (.bool true) ∧ Below W.heap.size W w') := fun W hW =>
    (sameTxns_any _ _ sl sl W (I2.out.below hW) (I12.out.below hW)).mono fun e w' ⟨h1, h2⟩ => ⟨by rw [h1, txnsEq_refl], h2⟩
  clear hv2 hb2 hLg hfg F1 I1 I2 I12 B1 L1
  obtain ⟨n, hn⟩ : ∃ n, sl.length = n := ⟨_, rfl⟩
  rw [hn] at AK TE L2 G2 h40 hlc hby hlcg hbyg ⊢
  clear hn
  have EF := hid AK.out.full
  have ES := hid AK.out.sparse
  have hF : (allL (fullRow f n) n).length ≤ 1600 := by
    have h1 := allL_len (fullRow f n) 40 (fun i => Nat.le_trans (len_filter _ _) h40) n
    have h3 : n * 40 ≤ 40 * 40 := Nat.mul_le_mul_right _ (by omega)
    omega
  have hS : (allL (sparseRow f n) n).length ≤ 1600 := by
    have h1 := allL_len (sparseRow f n) 40 (fun i => Nat.le_trans (len_filter _ _) h40) n
    have h3 : n * 40 ≤ 40 * 40 := Nat.mul_le_mul_right _ (by omega)
    omega
  have HF := hid hF
  have HS := hid hS
  clear AK hF hS
  go_wp2_with fail
  go_loopg [5, 14] n (fun gg _ i wr => ∃ k : Nat, k ≤ n ∧ n - k ≤ gg ∧ i = .int .i64 k ∧ Aside (Below w2.heap.size w2 wr))
  case atStart => exact ⟨0, Nat.zero_le _, by omega, rfl, Below.refl _ _⟩
  case round =>
    obtain ⟨i, hi, hg, rfl, BW⟩ := hrel
    by_cases hlt : i < n
    · have hlti : (i : Int) < (n : Int) := by omega
      obtain ⟨b, o, rfl, hbl, ⟨xa, xn, xc, hx⟩, d0, d1, d2, d3, d4⟩ := (L2.out.later BW.out).five i hlt
      generalize f i = X at *
      obtain ⟨ap, ast, af, att, av⟩ := X
      simp only [LT.proc, LT.state, LT.since, LT.till, LT.ov] at d0 d1 d2 d3 d4 hx
      subst hx
      go_wp2_with fail
      have BA : Hid (Bx (wr.alloc (.cells #[.int .i64 ap, .int .i64 ast, .int .i64 af, .int .i64 att, .slice xa xn xc] 26)) wr.heap.size (ap, ast, af, att, .slice xa xn xc)) := (Bx.made wr (ap, ast, af, att, .slice xa xn xc) 26)
      have BWA := hid (BW.out.alloc BW.out.size (.cells #[.int .i64 ap, .int .i64 ast, .int .i64 af, .int .i64 att, .slice xa xn xc] 26))
      clear d0 d1 d2 d3 d4 BW
      generalize wr.alloc (.cells #[.int .i64 ap, .int .i64 ast, .int .i64 af, .int .i64 att, .slice xa xn xc] 26) = wa at *
      generalize wr.heap.size = pa at *
      go_loopg [7, 20] n (fun gg _ i2 wr => ∃ k : Nat, k ≤ n ∧ n - k ≤ gg ∧ i2 = .int .i64 k ∧ Aside (Below wa.heap.size wa wr))
      case atStart => exact ⟨0, Nat.zero_le _, by omega, rfl, Below.refl _ _⟩
      case round =>
        obtain ⟨j, hj, hgj, rfl, BW⟩ := hrel
        have BE := hid (BWA.out.trans (BW.out.mono BWA.out.size))
        by_cases hltj : j < n
        · have hltji : (j : Int) < (n : Int) := by omega
          obtain ⟨b', o', e', -, ⟨xa', xn', xc', hx⟩, d0, d1, d2, d3, d4⟩ := (L2.out.later BE.out).five j hltj
          cases e'
          generalize f j = Y at *
          obtain ⟨bp, bst, bf, btt, bv⟩ := Y
          simp only [LT.proc, LT.state, LT.since, LT.till, LT.ov] at d0 d1 d2 d3 d4 hx
          subst hx
          go_wp2_with fail
          have ALB := hid ((Below.refl wr.heap.size wr).alloc (Nat.le_refl _) (.cells #[.int .i64 bp, .int .i64 bst, .int .i64 bf, .int .i64 btt, .slice xa' xn' xc'] 26))
          have XB : Hid (Bx (wr.alloc (.cells #[.int .i64 bp, .int .i64 bst, .int .i64 bf, .int .i64 btt, .slice xa' xn' xc'] 26)) wr.heap.size (bp, bst, bf, btt, .slice xa' xn' xc')) := (Bx.made wr (bp, bst, bf, btt, .slice xa' xn' xc') 26)
          have XA := hid ((BA.out.later BW.out).later ALB.out)
          have BX := hid (BW.out.trans (ALB.out.mono BW.out.size))
          clear d0 d1 d2 d3 d4 BW BE ALB
          generalize wr.alloc (.cells #[.int .i64 bp, .int .i64 bst, .int .i64 bf, .int .i64 btt, .slice xa' xn' xc'] 26) = wb at *
          generalize wr.heap.size = pb at *
          obtain ⟨a0, a1, a2, a3, a4⟩ := XA.out.five
          obtain ⟨b0, b1, b2, b3, b4⟩ := XB.out.five
          simp only [LT.proc, LT.state, LT.since, LT.till, LT.ov] at a0 a1 a2 a3 a4 b0 b1 b2 b3 b4
          have la : pa < wb.heap.size := XA.out.1
          have lb : pb < wb.heap.size := XB.out.1
          have c0 : ∀ n os, (Sort.grow (wb.drewN n) os).cell? ⟨pa, 0, none⟩ = _ := cell_grown la a0
          have c1 : ∀ n os, (Sort.grow (wb.drewN n) os).cell? ⟨pa, 1, none⟩ = _ := cell_grown la a1
          have c2 : ∀ n os, (Sort.grow (wb.drewN n) os).cell? ⟨pa, 2, none⟩ = _ := cell_grown la a2
          have c3 : ∀ n os, (Sort.grow (wb.drewN n) os).cell? ⟨pa, 3, none⟩ = _ := cell_grown la a3
          have c4 : ∀ n os, (Sort.grow (wb.drewN n) os).cell? ⟨pa, 4, none⟩ = _ := cell_grown la a4
          have g0 : ∀ n os, (Sort.grow (wb.drewN n) os).cell? ⟨pb, 0, none⟩ = _ := cell_grown lb b0
          have g1 : ∀ n os, (Sort.grow (wb.drewN n) os).cell? ⟨pb, 1, none⟩ = _ := cell_grown lb b1
          have g2 : ∀ n os, (Sort.grow (wb.drewN n) os).cell? ⟨pb, 2, none⟩ = _ := cell_grown lb b2
          have g3 : ∀ n os, (Sort.grow (wb.drewN n) os).cell? ⟨pb, 3, none⟩ = _ := cell_grown lb b3
          have g4 : ∀ n os, (Sort.grow (wb.drewN n) os).cell? ⟨pb, 4, none⟩ = _ := cell_grown lb b4
          obtain ⟨r, hr⟩ : ∃ r, bef (ap, ast, af, att, .slice xa xn xc) (bp, bst, bf, btt, .slice xa' xn' xc') = r := ⟨_, rfl⟩
          have HB := hid (fun w' => before_grown ap ast af att (.slice xa xn xc) bp bst bf btt (.slice xa' xn' xc') r hr w')
          have HC := hid (fun w' => rbefore_grown ap ast af att (.slice xa xn xc) bp bst bf btt (.slice xa' xn' xc') r hr w')
          have hrr : (r != r) = false := by cases r <;> rfl
          have hrr2 : (r == r) = true := by cases r <;> rfl
          clear a0 a1 a2 a3 a4 b0 b1 b2 b3 b4 hr
          refine wp_region_quiet_grown (by assumption) (by kernel_rfl) ?_
          repeat (go_big_quiet_step (first | (go_at_call 10; exact Calls.grown_of (HB.out _)) | (go_at_call 11; exact Calls.grown_of (HC.out _))))
          refine wpQuiet_nil ?_
          intro w9 hw9
          obtain ⟨⟨nq, osq⟩, hw8⟩ := hw9
          subst hw8
          have B9 := hid (BX.out.trans ((below_grown_sl wb.heap.size wb nq osq (Nat.le_refl _)).mono BX.out.size))
          go_wp2_with fail
          go_roundg (n - (j + 1))
          case measure => omega
          case rel => exact ⟨j + 1, by omega, by omega, by go_num, B9.out⟩
        · have hltji : ¬ (j : Int) < (n : Int) := by omega
          go_wp2_with fail
          go_roundg (n - (i + 1))
          case measure => omega
          case rel => exact ⟨i + 1, by omega, by omega, by go_num, BE.out⟩
    · have hlti : ¬ (i : Int) < (n : Int) := by omega
      go_wp2_with fail
      go_at_call 13
      refine (full_is ag cg n fg wr h40 (G2.out.later BW.out)).mono ?_
      rintro e w3 ⟨v3, rfl, hO3, hb3⟩
      rw [EF.out] at hO3
      obtain ⟨a3, c3, rfl, -, hL3⟩ := owns_ls hO3
      have L3 := hid hL3
      have B3 := hid (BW.out.trans (hb3.mono BW.out.size))
      clear hO3 hb3 hL3 BW EF
      go_wp2_with fail
      go_at_call 14
      refine (rfull_is ao c n f w3 h40 (L2.out.later B3.out)).mono ?_
      rintro e w4 ⟨v4, rfl, hO4, hb4⟩
      obtain ⟨a4, c4, rfl, -, hL4⟩ := owns_ls hO4
      have E5 := hid (eqPairs_is a3 a4 c3 c4 _ _ w4 (L3.out.later hb4) hL4 (by have := HF.out; omega))
      have B4 := hid (B3.out.trans (hb4.mono B3.out.size))
      clear hO4 hb4 hL4 L3 B3 HF
      generalize (allL (fullRow f n) n).length = F at *
      go_wp2_with fail
      go_at_call 12
      refine E5.out.mono ?_
      rintro e w5 ⟨rfl, hb5⟩
      have B5 := hid (B4.out.trans (hb5.mono B4.out.size))
      clear hb5 B4 E5
      go_wp2_with fail
      go_at_call 15
      refine (sparse_is ag cg n fg w5 h40 (G2.out.later B5.out)).mono ?_
      rintro e w6 ⟨v6, rfl, hO6, hb6⟩
      rw [ES.out] at hO6
      obtain ⟨a6, c6, rfl, -, hL6⟩ := owns_ls hO6
      have L6 := hid hL6
      have B6 := hid (B5.out.trans (hb6.mono B5.out.size))
      clear hO6 hb6 hL6 B5 ES
      go_wp2_with fail
      go_at_call 16
      refine (rsparse_is ao c n f w6 h40 (L2.out.later B6.out)).mono ?_
      rintro e w7 ⟨v7, rfl, hO7, hb7⟩
      obtain ⟨a7, c7, rfl, -, hL7⟩ := owns_ls hO7
      have E8 := hid (eqPairs_is a6 a7 c6 c7 _ _ w7 (L6.out.later hb7) hL7 (by have := HS.out; omega))
      have B7 := hid (B6.out.trans (hb7.mono B6.out.size))
      clear hO7 hb7 hL7 L6 B6 HS
      generalize (allL (sparseRow f n) n).length = G at *
      go_wp2_with fail
      go_at_call 12
      refine E8.out.mono ?_
      rintro e w8 ⟨rfl, hb8⟩
      have B8 := hid (B7.out.trans (hb8.mono B7.out.size))
      clear hb8 B7 E8
      go_wp2_with fail
      go_at_call 17
      refine (TE.out w8 B8.out).mono ?_
      rintro e w9 ⟨rfl, hb9⟩
      have B9 := hid (B2.out.trans ((B8.out.trans (hb9.mono B8.out.size)).mono B2.out.size))
      clear hb9
      go_wp2_with fail
      go_ret
      exact ⟨rfl, B9.out⟩
end Go.Proofs.Ytbcegdiabnapkaa
