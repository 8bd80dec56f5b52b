/-
  Reach, and the law PathsReach.
-/
import Derived.Test.YtjgmkigfpjmlaabDoorS7
namespace Go.Proofs.YtjgmkigfpjmlaabDoor
set_option linter.unusedVariables false
set_option linter.unusedSimpArgs false
open Go.RowKit

set_option maxRecDepth 100000 in
theorem field85 (x : Addr) (y : Option Addr) (k c : Nat) (w : World) : (Instr.field 85 (.agg #[.pointer (some x), .slice y k c]) 0).run Tryd.prog w = .ok (.pointer (some x)) w := by
  first | kernel_rfl | rfl
set_option maxHeartbeats 4000000 in
set_option maxRecDepth 100000 in
theorem reach_ok (b n r s : Nat) (bk ck : Nat → Nat) (L : Nat → Nat → Nat) (labels : Int) (w : World) (h : Graph w b n r bk ck L) (hs : s < n) (hT : Tab w) :
    Calls Tryd.prog 20 #[.pointer (some ⟨b, 0, none⟩), .int .i64 labels, .int .i64 s] w fun e w' => (∃ (sb cb : Nat) (cd : Nat → Nat), e = .returned (.tuple #[.pointer (some ⟨sb, 0, none⟩), .int .i64 0]) ∧ Is w' sb n cb (fun v => decide (cd v ≠ 0)) ∧ ∀ x, cd x ≠ 0 ↔ Rch (edge L labels) n s x) ∧ Below w.heap.size w w' := by
  have PM := hid (pMade b n r bk ck L w h)
  have ND := hid (nodes_is b n w h.c0 h.c1)
  have FO := hid (follow_is b n r s bk ck L labels (-1) w h hs hT)
  have h1 : ¬ ((s : Int) < 0) := by omega
  have h2 : ¬ ((n : Int) ≤ s) := by omega
  have h3 : (s : Int) < n := by omega
  clear h hT
  go_enter Tryd.func20, Tryd.ntmps20
  go_wp2_with fail
  go_at_call 50
  refine PM.out.mono ?_
  rintro e w' ⟨rfl, rfl⟩
  go_wp2_with fail
  go_at_call 37
  refine ND.out.mono ?_
  rintro e w' ⟨rfl, rfl⟩
  go_wp2_with fail
  go_at_call 46
  refine FO.out.mono ?_
  rintro e w1 ⟨⟨sb, nb, cd, bf, rfl, t1, en⟩, b1⟩
  obtain ⟨cb, s1⟩ := t1.set
  have S1 := hid s1
  have E1 := hid en.rch
  have B1 := hid b1
  clear s1 t1 en b1
  have hf85 := field85
  go_wp2_with fail
  refine bodyPost_ret (v := .tuple #[.pointer (some ⟨sb, 0, none⟩), .int .i64 0]) (by simp [results, Tryd.results20, go_sem]) rfl ⟨⟨sb, cb, cd, rfl, S1.out, E1.out⟩, B1.out⟩
set_option maxHeartbeats 4000000 in
set_option maxRecDepth 100000 in
theorem reach_no (b n r : Nat) (s : Int) (bk ck : Nat → Nat) (L : Nat → Nat → Nat) (labels : Int) (w : World) (h : Graph w b n r bk ck L) (hs : s < 0 ∨ (n : Int) ≤ s) :
    Calls Tryd.prog 20 #[.pointer (some ⟨b, 0, none⟩), .int .i64 labels, .int .i64 s] w fun e w' => e = .returned (.tuple #[.pointer none, .int .i64 60]) ∧ w = w' := by
  have PM := hid (pMade b n r bk ck L w h)
  have ND := hid (nodes_is b n w h.c0 h.c1)
  clear h
  rcases hs with h1 | h1
  · go_enter Tryd.func20, Tryd.ntmps20
    go_wp2_with fail
    go_at_call 50
    refine PM.out.mono ?_
    rintro e w' ⟨rfl, rfl⟩
    go_wp2_with fail
    refine bodyPost_ret (v := .tuple #[.pointer none, .int .i64 60]) (by simp [results, Tryd.results20, go_sem]) rfl ⟨rfl, rfl⟩
  · have h2 : ¬ s < 0 := by omega
    go_enter Tryd.func20, Tryd.ntmps20
    go_wp2_with fail
    go_at_call 50
    refine PM.out.mono ?_
    rintro e w' ⟨rfl, rfl⟩
    go_wp2_with fail
    go_at_call 37
    refine ND.out.mono ?_
    rintro e w' ⟨rfl, rfl⟩
    go_wp2_with fail
    refine bodyPost_ret (v := .tuple #[.pointer none, .int .i64 60]) (by simp [results, Tryd.results20, go_sem]) rfl ⟨rfl, rfl⟩

set_option maxHeartbeats 8000000 in
set_option maxRecDepth 100000 in
theorem reach_walk (n0 : Int) (ao : Option Addr) (cp : Nat) (es : List (Int × Int × Int)) (labels f : Int) (w : World) (hz : ArgE w ao es) (hl : es.length ≤ maxLen) (hT : Tab w) :
    Calls Tryd.prog 5 #[.int .i64 n0, .slice ao es.length cp, .int .i64 labels, .int .i64 f] w fun e w' => e = .returned (.bool true) ∧ Below w.heap.size w w' := by
  obtain ⟨n, hn, hD⟩ := u64_tmod n0 60 (by decide) (by decide)
  have D := hid (drawn_P n0 n hn hD ao cp es w hz hl)
  have TB := hid hT
  clear hz hl hT hD
  go_enter Tryd.func5, Tryd.ntmps5
  go_wp2_with fail
  go_at_call 14
  refine D.out.mono ?_
  rintro e w1 ⟨⟨b, b2, rfl, r, bk, ck, v, rw', L, g1, r1, -, -, dg⟩, b1⟩
  have B1 := hid b1
  have G1 := hid g1
  have R1 := hid r1
  have T1 := hid (TB.out.later b1)
  have hni : (n : Int) < 60 := by omega
  clear b1 g1 r1 dg D TB
  by_cases hs : f < 0 ∨ (n : Int) ≤ f
  · obtain ⟨xa, xc, hv, -⟩ := R1.out.form
    have c0 := R1.out.c0
    rw [hv] at c0
    have TH := hid (rthere_no b2 n xc xa f w1 c0 hs)
    have RN := hid (reach_no b n r f bk ck L labels w1 G1.out hs)
    clear c0 hv hs
    go_wp2_with fail
    go_at_call 20
    refine RN.out.mono ?_
    rintro e w' ⟨rfl, rfl⟩
    go_wp2_with fail
    go_at_call 21
    refine TH.out.mono ?_
    rintro e w' ⟨rfl, rfl⟩
    go_wp2_with fail
    go_ret
    exact ⟨rfl, B1.out⟩
  · obtain ⟨S, rfl⟩ : ∃ S : Nat, f = S := ⟨f.toNat, by omega⟩
    have hS : S < n := by omega
    clear hs
    go_wp2_with fail
    go_at_call 20
    refine (reach_ok b n r S bk ck L labels w1 G1.out hS T1.out).mono ?_
    rintro e w2 ⟨⟨sb, cb, cd, rfl, s2, e2⟩, c2⟩
    have S2 := hid s2
    have E2 := hid e2
    have C2 := hid c2
    obtain ⟨xa, xc, hv, -⟩ := (R1.out.later c2).form
    have c0 := (R1.out.later c2).c0
    rw [hv] at c0
    have TH := hid (rthere_ok b2 n xc xa S w2 c0 hS)
    have BQ : Hid (∀ q, Calls Tryd.prog 22 #[.pointer (some ⟨sb, 0, none⟩)] (w2.drewN q) fun e w'' => e = .returned (.int .i64 n) ∧ ∃ m, w'' = w2.drewN m) := fun q => quietly (bound_is sb n cb _ (w2.drewN q) (s2.drewN q))
    clear s2 e2 c2 hv
    go_wp2_with fail
    go_at_call 21
    refine TH.out.mono ?_
    rintro e w' ⟨rfl, rfl⟩
    have hnn : ((n : Int) != (n : Int)) = false := by simp
    go_wp2_with fail
    go_quiet ((go_at_call 22; exact BQ.out _))
    go_wp2_with fail
    go_at_call 23
    refine (reaches_is b2 n v rw' L labels S _ ((R1.out.later C2.out).later (below_drewN (Below.refl _ _) _)) hS hn).mono ?_
    rintro e w3 ⟨⟨mk, M, rfl, l3, m3⟩, c3⟩
    have C3 : Hid (Below w2.heap.size w2 w3) := ⟨c3.os, c3.tape, c3.output, c3.size, c3.block⟩
    have L3 := hid l3
    have EQ : Hid (∀ x, decide (cd x ≠ 0) = M x) := fun x => by
      rw [Bool.eq_iff_iff, decide_eq_true_eq, E2.out x, m3 x]
    have S3 := hid (S2.out.later C3.out)
    have B3 := hid (B1.out.trans (((C2.out).trans (C3.out.mono C2.out.size)).mono B1.out.size))
    clear l3 m3 c3 C3 C2 S2 E2 c0
    go_wp2_with fail
    go_loopg [59] n (fun g i wq => ∃ j : Nat, j ≤ n ∧ n - j ≤ g ∧ i = .int .i64 j ∧ w3 = wq)
    case atStart => exact ⟨0, Nat.zero_le _, by omega, rfl, rfl⟩
    case round =>
      obtain ⟨j, hj, hg, rfl, rfl⟩ := hrel
      by_cases hjn : j < n
      · have hjni : (j : Int) < n := by omega
        obtain ⟨cm, -⟩ := L3.out.cell j hjn
        have HAS := hid (has_is sb n cb _ j w3 S3.out hjn)
        rw [EQ.out j] at HAS
        generalize M j = mj at *
        have hbb : (mj != mj) = false := by simp
        go_wp2_with fail
        go_at_call 24
        refine HAS.out.mono ?_
        rintro e w' ⟨rfl, rfl⟩
        cases mj with
        | true =>
          go_wp2_with fail
          go_roundg (n - (j + 1))
          · exact ⟨j + 1, by omega, by omega, by go_num, rfl⟩
          · omega
        | false =>
          go_wp2_with fail
          go_roundg (n - (j + 1))
          · exact ⟨j + 1, by omega, by omega, by go_num, rfl⟩
          · omega
      · have hjni : ¬ (j : Int) < n := by omega
        go_wp2_with fail
        go_ret
        exact ⟨rfl, B3.out⟩
end Go.Proofs.YtjgmkigfpjmlaabDoor
