/-
  The law ClosureGoes.
-/
import Derived.Test.YtmnfmilgpglfcaaDoorL1
namespace Go.Proofs.YtmnfmilgpglfcaaDoor
set_option linter.unusedVariables false
set_option linter.unusedSimpArgs false
open Go.RowKit

theorem tr_ways {R : Nat → Nat → Bool} (hT : Tr R) (a b c : Nat) : R a b = false ∨ (R a b = true ∧ R b c = false) ∨ (R a b = true ∧ R b c = true ∧ R a c = true) := by
  cases h1 : R a b with
  | false => exact .inl rfl
  | true =>
    cases h2 : R b c with
    | false => exact .inr (.inl ⟨rfl, rfl⟩)
    | true => exact .inr (.inr ⟨rfl, rfl, hT a b c h1 h2⟩)
theorem sub_ways {R S : Nat → Nat → Bool} (h : ∀ i j, S i j = true → R i j = true) (a b : Nat) : (S a b = false ∧ R a b = false) ∨ (S a b = false ∧ R a b = true) ∨ (S a b = true ∧ R a b = true) := by
  cases h1 : S a b with
  | false => cases R a b <;> simp
  | true => exact .inr (.inr ⟨rfl, h a b h1⟩)
theorem mod_one25 (n : Int) : ∃ N : Nat, 1 ≤ N ∧ N ≤ 25 ∧ wrap64 (1 + wrap64 ((IntKind.u64.wrap n).tmod 25)) = N := mod_one n 25 (by decide) (by decide)
set_option maxHeartbeats 8000000 in
set_option maxRecDepth 100000 in
theorem goes_walk (n : Int) (ao : Option Addr) (cp : Nat) (zs : List (Int × Int × Bool)) (w : World) (hz : ArgP w ao zs) (hl : zs.length ≤ maxLen) (hT : Tab w) :
    Calls Tryd.prog 4 #[.int .i64 n, .slice ao zs.length cp] w fun e w' => e = .returned (.bool true) ∧ Below w.heap.size w w' := by
  obtain ⟨N, hN1, hN2, hN⟩ := mod_one25 n
  have HZ := hid hz
  have TB := hid hT
  have HL := hid hl
  clear hz hT hl
  have hNi : (N : Int) ≤ 25 := by omega
  have hNi1 : (1 : Int) ≤ N := by omega
  go_enter Tryd.func4, Tryd.ntmps4
  go_wp2_with fail
  go_at_call 7
  refine (added_ok N (by omega) ao cp zs w HZ.out HL.out).mono ?_
  rintro e w1 ⟨⟨b, b2, rfl, h1⟩, bl⟩
  have BO := hid h1
  have B1 := hid bl
  have T1 := hid (TB.out.later bl)
  clear h1 bl
  have PL : Hid ((psOf N (zs.take 100)).length ≤ 1000) := by
    show _ ≤ _
    have h1 := psOf_len N (zs.take 100)
    have h2 : (zs.take 100).length ≤ 100 := by simp; omega
    omega
  have HTR := hid (clR_trans (sel false (psOf N (zs.take 100))))
  have HTS := hid (clR_trans (sel true (psOf N (zs.take 100))))
  have HSU : Hid (∀ i j, clR (sel true (psOf N (zs.take 100))) i j = true → clR (sel false (psOf N (zs.take 100))) i j = true) := fun i j h => clR_sub (sel_sub _) i j h
  obtain ⟨ps, hps⟩ : ∃ ps, psOf N (zs.take 100) = ps := ⟨_, rfl⟩
  rw [hps] at BO PL HTR HTS HSU
  clear hps
  have LESS : Hid (∀ (wr : World) (x y : Nat), Below w1.heap.size w1 wr → x < N → y < N → Calls Tryd.prog 8 #[.pointer (some ⟨b, 0, none⟩), .int .i64 x, .int .i64 y] wr fun e w' => e = .returned (.bool (clR (sel false ps) x y)) ∧ wr = w') := fun wr x y hb hx hy => by
    have := less_any _ b N _ _ x y wr (BO.out.1.later hb)
    rw [ahd_nat _ N x y hx hy] at this
    exact this
  have SURE : Hid (∀ (wr : World) (x y : Nat), Below w1.heap.size w1 wr → x < N → y < N → Calls Tryd.prog 10 #[.pointer (some ⟨b, 0, none⟩), .int .i64 x, .int .i64 y] wr fun e w' => e = .returned (.bool (clR (sel true ps) x y)) ∧ wr = w') := fun wr x y hb hx hy => by
    have := sure_any _ b N _ _ x y wr (BO.out.1.later hb)
    rw [ahd_nat _ N x y hx hy] at this
    exact this
  have RLESS : Hid (∀ (wr : World) (x y : Nat), Below w1.heap.size w1 wr → x < N → y < N → Calls Tryd.prog 9 #[.pointer (some ⟨b2, 0, none⟩), .int .i64 x, .int .i64 y] wr fun e w' => e = .returned (.bool (clR (sel false ps) x y)) ∧ Below wr.heap.size wr w') := fun wr x y hb hx hy => by
    have := rless_any _ b2 N ps x y wr (BO.out.2.later hb) PL.out
    rw [ahd_nat _ N x y hx hy] at this
    exact this
  generalize hR : clR (sel false ps) = R at *
  generalize hS : clR (sel true ps) = S at *
  go_wp2_with fail
  go_loopg [8, 30] N (fun g _ i wr => ∃ k : Nat, k ≤ N ∧ N - k ≤ g ∧ i = .int .i64 k ∧ Aside (Below w1.heap.size w1 wr))
  case atStart => exact ⟨0, Nat.zero_le _, by omega, rfl, Below.refl _ _⟩
  case round =>
    obtain ⟨k, hk, hg, rfl, BX⟩ := hrel
    by_cases hkl : k < N
    · have hkli : (k : Int) < N := by omega
      go_wp2_with fail
      generalize wr = wo at *
      go_loopg [9, 34] N (fun g _ i wr => ∃ j : Nat, j ≤ N ∧ N - j ≤ g ∧ i = .int .i64 j ∧ Aside (Below w1.heap.size w1 wr))
      case atStart => exact ⟨0, Nat.zero_le _, by omega, rfl, BX.out⟩
      case round =>
        clear BX
        obtain ⟨j, hj, hg2, rfl, BX⟩ := hrel
        by_cases hjl : j < N
        · have hjli : (j : Int) < N := by omega
          have LB := hid (LESS.out _ k j BX.out hkl hjl)
          have SB := hid (SURE.out _ k j BX.out hkl hjl)
          have RB := hid (RLESS.out _ k j BX.out hkl hjl)
          rcases sub_ways HSU.out k j with ⟨e1, e2⟩ | ⟨e1, e2⟩ | ⟨e1, e2⟩
          all_goals
            rw [e1] at SB
            rw [e2] at LB RB
            clear e1 e2
            go_wp2_with (first | (go_at_call 8; refine LB.out.mono ?_; rintro e w' ⟨rfl, rfl⟩) | (go_at_call 10; refine SB.out.mono ?_; rintro e w' ⟨rfl, rfl⟩) | (go_at_call 9; refine RB.out.mono ?_; rintro e w' ⟨rfl, bl⟩; have BY := hid (BX.out.trans (bl.mono BX.out.size)); clear bl))
            clear LB SB RB BX
            generalize wr = wp at *
            go_loopg [10, 60] N (fun g _ i wr => ∃ c : Nat, c ≤ N ∧ N - c ≤ g ∧ i = .int .i64 c ∧ Aside (Below w1.heap.size w1 wr))
            case atStart => exact ⟨0, Nat.zero_le _, by omega, rfl, BY.out⟩
            case round =>
              clear BY
              obtain ⟨c, hc, hg3, rfl, BX⟩ := hrel
              by_cases hcl : c < N
              · have hcli : (c : Int) < N := by omega
                have L1 := hid (LESS.out _ k j BX.out hkl hjl)
                have L2 := hid (LESS.out _ j c BX.out hjl hcl)
                have L3 := hid (LESS.out _ k c BX.out hkl hcl)
                have S1 := hid (SURE.out _ k j BX.out hkl hjl)
                have S2 := hid (SURE.out _ j c BX.out hjl hcl)
                have S3 := hid (SURE.out _ k c BX.out hkl hcl)
                have WL := hid (tr_ways HTR.out k j c)
                have WS := hid (tr_ways HTS.out k j c)
                rcases WL.out with e1 | ⟨e1, e2⟩ | ⟨e1, e2, e3⟩
                · rw [e1] at L1
                  clear e1 L2 L3 WL
                  rcases WS.out with f1 | ⟨f1, f2⟩ | ⟨f1, f2, f3⟩
                  · rw [f1] at S1
                    clear f1 S2 S3 WS
                    go_wp2_with fail
                    go_at_call 8
                    refine L1.out.mono ?_
                    rintro e w' ⟨rfl, rfl⟩
                    go_wp2_with fail
                    go_at_call 10
                    refine S1.out.mono ?_
                    rintro e w' ⟨rfl, rfl⟩
                    go_wp2_with fail
                    go_roundg (N - (c + 1))
                    · exact ⟨c + 1, by omega, by omega, by go_num, BX.out⟩
                    · omega
                  · rw [f1] at S1
                    rw [f2] at S2
                    clear f1 f2 S3 WS
                    go_wp2_with fail
                    go_at_call 8
                    refine L1.out.mono ?_
                    rintro e w' ⟨rfl, rfl⟩
                    go_wp2_with fail
                    go_at_call 10
                    refine S1.out.mono ?_
                    rintro e w' ⟨rfl, rfl⟩
                    go_wp2_with fail
                    go_at_call 10
                    refine S2.out.mono ?_
                    rintro e w' ⟨rfl, rfl⟩
                    go_wp2_with fail
                    go_roundg (N - (c + 1))
                    · exact ⟨c + 1, by omega, by omega, by go_num, BX.out⟩
                    · omega
                  · rw [f1] at S1
                    rw [f2] at S2
                    rw [f3] at S3
                    clear f1 f2 f3 WS
                    go_wp2_with fail
                    go_at_call 8
                    refine L1.out.mono ?_
                    rintro e w' ⟨rfl, rfl⟩
                    go_wp2_with fail
                    go_at_call 10
                    refine S1.out.mono ?_
                    rintro e w' ⟨rfl, rfl⟩
                    go_wp2_with fail
                    go_at_call 10
                    refine S2.out.mono ?_
                    rintro e w' ⟨rfl, rfl⟩
                    go_wp2_with fail
                    go_at_call 10
                    refine S3.out.mono ?_
                    rintro e w' ⟨rfl, rfl⟩
                    go_wp2_with fail
                    go_roundg (N - (c + 1))
                    · exact ⟨c + 1, by omega, by omega, by go_num, BX.out⟩
                    · omega
                · rw [e1] at L1
                  rw [e2] at L2
                  clear e1 e2 L3 WL
                  rcases WS.out with f1 | ⟨f1, f2⟩ | ⟨f1, f2, f3⟩
                  · rw [f1] at S1
                    clear f1 S2 S3 WS
                    go_wp2_with fail
                    go_at_call 8
                    refine L1.out.mono ?_
                    rintro e w' ⟨rfl, rfl⟩
                    go_wp2_with fail
                    go_at_call 8
                    refine L2.out.mono ?_
                    rintro e w' ⟨rfl, rfl⟩
                    go_wp2_with fail
                    go_at_call 10
                    refine S1.out.mono ?_
                    rintro e w' ⟨rfl, rfl⟩
                    go_wp2_with fail
                    go_roundg (N - (c + 1))
                    · exact ⟨c + 1, by omega, by omega, by go_num, BX.out⟩
                    · omega
                  · rw [f1] at S1
                    rw [f2] at S2
                    clear f1 f2 S3 WS
                    go_wp2_with fail
                    go_at_call 8
                    refine L1.out.mono ?_
                    rintro e w' ⟨rfl, rfl⟩
                    go_wp2_with fail
                    go_at_call 8
                    refine L2.out.mono ?_
                    rintro e w' ⟨rfl, rfl⟩
                    go_wp2_with fail
                    go_at_call 10
                    refine S1.out.mono ?_
                    rintro e w' ⟨rfl, rfl⟩
                    go_wp2_with fail
                    go_at_call 10
                    refine S2.out.mono ?_
                    rintro e w' ⟨rfl, rfl⟩
                    go_wp2_with fail
                    go_roundg (N - (c + 1))
                    · exact ⟨c + 1, by omega, by omega, by go_num, BX.out⟩
                    · omega
                  · rw [f1] at S1
                    rw [f2] at S2
                    rw [f3] at S3
                    clear f1 f2 f3 WS
                    go_wp2_with fail
                    go_at_call 8
                    refine L1.out.mono ?_
                    rintro e w' ⟨rfl, rfl⟩
                    go_wp2_with fail
                    go_at_call 8
                    refine L2.out.mono ?_
                    rintro e w' ⟨rfl, rfl⟩
                    go_wp2_with fail
                    go_at_call 10
                    refine S1.out.mono ?_
                    rintro e w' ⟨rfl, rfl⟩
                    go_wp2_with fail
                    go_at_call 10
                    refine S2.out.mono ?_
                    rintro e w' ⟨rfl, rfl⟩
                    go_wp2_with fail
                    go_at_call 10
                    refine S3.out.mono ?_
                    rintro e w' ⟨rfl, rfl⟩
                    go_wp2_with fail
                    go_roundg (N - (c + 1))
                    · exact ⟨c + 1, by omega, by omega, by go_num, BX.out⟩
                    · omega
                · rw [e1] at L1
                  rw [e2] at L2
                  rw [e3] at L3
                  clear e1 e2 e3 WL
                  rcases WS.out with f1 | ⟨f1, f2⟩ | ⟨f1, f2, f3⟩
                  · rw [f1] at S1
                    clear f1 S2 S3 WS
                    go_wp2_with fail
                    go_at_call 8
                    refine L1.out.mono ?_
                    rintro e w' ⟨rfl, rfl⟩
                    go_wp2_with fail
                    go_at_call 8
                    refine L2.out.mono ?_
                    rintro e w' ⟨rfl, rfl⟩
                    go_wp2_with fail
                    go_at_call 8
                    refine L3.out.mono ?_
                    rintro e w' ⟨rfl, rfl⟩
                    go_wp2_with fail
                    go_at_call 10
                    refine S1.out.mono ?_
                    rintro e w' ⟨rfl, rfl⟩
                    go_wp2_with fail
                    go_roundg (N - (c + 1))
                    · exact ⟨c + 1, by omega, by omega, by go_num, BX.out⟩
                    · omega
                  · rw [f1] at S1
                    rw [f2] at S2
                    clear f1 f2 S3 WS
                    go_wp2_with fail
                    go_at_call 8
                    refine L1.out.mono ?_
                    rintro e w' ⟨rfl, rfl⟩
                    go_wp2_with fail
                    go_at_call 8
                    refine L2.out.mono ?_
                    rintro e w' ⟨rfl, rfl⟩
                    go_wp2_with fail
                    go_at_call 8
                    refine L3.out.mono ?_
                    rintro e w' ⟨rfl, rfl⟩
                    go_wp2_with fail
                    go_at_call 10
                    refine S1.out.mono ?_
                    rintro e w' ⟨rfl, rfl⟩
                    go_wp2_with fail
                    go_at_call 10
                    refine S2.out.mono ?_
                    rintro e w' ⟨rfl, rfl⟩
                    go_wp2_with fail
                    go_roundg (N - (c + 1))
                    · exact ⟨c + 1, by omega, by omega, by go_num, BX.out⟩
                    · omega
                  · rw [f1] at S1
                    rw [f2] at S2
                    rw [f3] at S3
                    clear f1 f2 f3 WS
                    go_wp2_with fail
                    go_at_call 8
                    refine L1.out.mono ?_
                    rintro e w' ⟨rfl, rfl⟩
                    go_wp2_with fail
                    go_at_call 8
                    refine L2.out.mono ?_
                    rintro e w' ⟨rfl, rfl⟩
                    go_wp2_with fail
                    go_at_call 8
                    refine L3.out.mono ?_
                    rintro e w' ⟨rfl, rfl⟩
                    go_wp2_with fail
                    go_at_call 10
                    refine S1.out.mono ?_
                    rintro e w' ⟨rfl, rfl⟩
                    go_wp2_with fail
                    go_at_call 10
                    refine S2.out.mono ?_
                    rintro e w' ⟨rfl, rfl⟩
                    go_wp2_with fail
                    go_at_call 10
                    refine S3.out.mono ?_
                    rintro e w' ⟨rfl, rfl⟩
                    go_wp2_with fail
                    go_roundg (N - (c + 1))
                    · exact ⟨c + 1, by omega, by omega, by go_num, BX.out⟩
                    · omega
              · have hcli : ¬ (c : Int) < N := by omega
                go_wp2_with fail
                go_roundg (N - (j + 1))
                · exact ⟨j + 1, by omega, by omega, by go_num, BX.out⟩
                · omega
        · have hjli : ¬ (j : Int) < N := by omega
          go_wp2_with fail
          go_roundg (N - (k + 1))
          · exact ⟨k + 1, by omega, by omega, by go_num, BX.out⟩
          · omega
    · have hkli : ¬ (k : Int) < N := by omega
      have hlP : ((allP R N N).length : Int) ≤ 1000000 := by
        have h1 := allP_len R N N
        have h2 : N * N ≤ 25 * 25 := Nat.mul_le_mul (by omega) (by omega)
        omega
      have P1 : Hid _ := hid (pairs_is _ b N _ _ _ (BO.out.1.later BX.out) (T1.out.later BX.out))
      rw [hR] at P1
      have hqq : (((allP R N N).length : Int) == ((allP R N N).length : Int)) = true := by simp
      go_wp2_with fail
      go_at_call 13
      refine P1.out.mono ?_
      rintro e w2 ⟨⟨v1, rfl, p1⟩, bl⟩
      have B2 := hid (BX.out.trans (bl.mono BX.out.size))
      obtain ⟨a1, c1, rfl, -⟩ := p1.arg
      clear bl p1 P1 BX
      have P2 : Hid _ := hid (rpairs_is _ b2 N ps w2 (BO.out.2.later B2.out) PL.out)
      rw [hR] at P2
      go_wp2_with fail
      go_at_call 14
      refine P2.out.mono ?_
      rintro e w3 ⟨⟨v2, rfl, p2⟩, bl⟩
      have B3 := hid (B1.out.trans ((B2.out.trans (bl.mono B2.out.size)).mono B1.out.size))
      obtain ⟨a2, c2, rfl, -⟩ := p2.arg
      clear bl p2 P2 B2
      go_wp2_with fail
      go_ret
      exact ⟨rfl, B3.out⟩
end Go.Proofs.YtmnfmilgpglfcaaDoor
