/-
  The document's words of a get: rightRegister.
-/
import Derived.Test.YtadlnkaphkbfdaaIn19
import Derived.BigQuiet
namespace Go.Proofs.Ytadlnkaphkbfdaa
set_option linter.unusedVariables false
set_option linter.unusedSimpArgs false
open Go.RowKit Go.Lib Go.Sort

theorem oldc {w W : World} {a : Addr} {v : Value} (h : w.cell? a = some v) (hb : Below w.heap.size w W) (n : Nat) (os : Array Obj) : (grow (W.drewN n) os).cell? a = some v := by
  have hl : a.block < w.heap.size := World.block_lt_of_cell? _ _ h
  exact cell_grown (Nat.lt_of_lt_of_le hl hb.size) ((hb.cell (p := a) hl).trans h) n os
theorem rreg_skip (l : List MOp) (o : MOp) (p : Nat) (h : skp (l.getD p default) o = true) : rreg l o (p + 1) = rreg l o p := by
  show (if skp (l.getD p default) o then _ else _) = _
  rw [if_pos h]
theorem rreg_says (l : List MOp) (o : MOp) (p : Nat) (h : skp (l.getD p default) o = false) : rreg l o (p + 1) = says (l.getD p default) o := by
  show (if skp (l.getD p default) o then _ else _) = _
  rw [if_neg (by rw [h]; exact Bool.false_ne_true)]
theorem lik_reg (p o : MOp) (ho : o.kind = 4) (h : lik p o = true) : p.kind = 3 ∨ p.kind = 4 := by
  simp only [lik, isL, wrt, Bool.and_eq_true, Bool.or_eq_true, beq_iff_eq, decide_eq_true_eq, ho] at h
  have h4 := h.2
  have h5 := h.1.1.1
  simp at h4
  omega

set_option maxHeartbeats 1500000 in
set_option maxRecDepth 100000 in
theorem rreg_is (v : Value) (l : List MOp) (w : World) (h : OpsIn Any w v l) (i : Nat) (hi : i < l.length) (hk4 : (l.getD i default).kind = 4) :
    Calls Try.prog 38 #[v, .int .i64 i] w fun e w' => e = .returned (.bool (rreg l (l.getD i default) i)) ∧ Below w.heap.size w w' := by
  obtain ⟨ao, c, rfl, ⟨hby, hcap⟩, hc⟩ := ops_at h
  obtain ⟨bz, oz, lv, rfl, hI, k0, k1, k2, k3, k4, k5⟩ := hc i hi
  have HC := hid hc
  have hlen2 : (l.length : Int) ≤ 2199023255552 := by omega
  have hii : (i : Int) < l.length := by omega
  have hbl : bz < w.heap.size := World.block_lt_of_cell? _ _ k0
  obtain ⟨O, hO⟩ : ∃ O, l.getD i default = O := ⟨_, rfl⟩
  rw [hO] at hI k0 k1 k2 k4 k5 hk4
  rw [hO]
  obtain ⟨la, ln, lc, hlv⟩ : ∃ a n c, lv = .slice a n c := by obtain ⟨a, c, h, _⟩ := hI; exact ⟨a, _, c, h⟩
  subst hlv
  have mixed := Try.mixed
  have HK4 := hid hk4
  clear h hc hI hO hk4
  go_enter Try.func38, Try.ntmps38
  go_wp2_with fail
  go_loopg [5] i (fun g kv wr => ∃ (m : Nat) (z : Int), m ≤ i ∧ m ≤ g ∧ z = (m : Int) - 1 ∧ kv = .int .i64 z ∧ Aside (rreg l O i = rreg l O m) ∧ Aside (Below w.heap.size w wr))
  case atStart => exact ⟨i, (i : Int) - 1, Nat.le_refl _, Nat.le_refl _, rfl, rfl, rfl, Below.refl _ _⟩
  case round =>
    obtain ⟨m, z, hm, hg, hz, rfl, RQ, BX⟩ := hrel
    cases m with
    | zero =>
      have hz0 : ¬ 0 ≤ z := by omega
      go_wp2_with fail
      go_ret
      exact ⟨by rw [RQ.out]; rfl, BX.out⟩
    | succ p =>
      obtain rfl : z = (p : Int) := by omega
      have hz0 : (0 : Int) ≤ (p : Int) := by omega
      have hpl : (p : Int) < l.length := by omega
      obtain ⟨b1, o1, lv1, hda, hI, m0, m1, m2, m3, m4, m5⟩ := HC.out p (by omega)
      cases hda
      have p0 := (BX.out.cell (p := ⟨bz, oz + p * 6, none⟩) (World.block_lt_of_cell? _ _ m0)).trans m0
      have p1 := (BX.out.cell (p := ⟨bz, oz + p * 6 + 1, none⟩) (World.block_lt_of_cell? _ _ m1)).trans m1
      have p2 := (BX.out.cell (p := ⟨bz, oz + p * 6 + 2, none⟩) (World.block_lt_of_cell? _ _ m2)).trans m2
      have p3 := (BX.out.cell (p := ⟨bz, oz + p * 6 + 3, none⟩) (World.block_lt_of_cell? _ _ m3)).trans m3
      have p4 := (BX.out.cell (p := ⟨bz, oz + p * 6 + 4, none⟩) (World.block_lt_of_cell? _ _ m4)).trans m4
      have p5 := (BX.out.cell (p := ⟨bz, oz + p * 6 + 5, none⟩) (World.block_lt_of_cell? _ _ m5)).trans m5
      clear m0 m1 m2 m3 m4 m5
      obtain ⟨pa, pm, pc, hl1⟩ : ∃ a n c, lv1 = .slice a n c := by obtain ⟨a, c, h, _⟩ := hI; exact ⟨a, _, c, h⟩
      subst hl1
      obtain ⟨P, hP⟩ : ∃ P, l.getD p default = P := ⟨_, rfl⟩
      rw [hP] at p0 p1 p2 p4 p5
      have HP := hid hP
      clear hP hI hz
      have BW : Hid (Below w.heap.size w (wr.alloc (.cells #[.int .i64 P.kind, .string P.key, .int .i64 P.value, .slice pa pm pc, .bool P.has, .bool P.nl] 31))) := BX.out.trans ((below_box wr _).mono BX.out.size)
      have HB := heap_alloc_new wr (.cells #[.int .i64 P.kind, .string P.key, .int .i64 P.value, .slice pa pm pc, .bool P.has, .bool P.nl] 31)
      have c00 := grow_cell HB 0 (.int .i64 P.kind) rfl
      have c01 := grow_cell HB 1 (.string P.key) rfl
      have c02 := grow_cell HB 2 (.int .i64 P.value) rfl
      have c03 := grow_cell HB 3 (.slice pa pm pc) rfl
      have c04 := grow_cell HB 4 (.bool P.has) rfl
      have c05 := grow_cell HB 5 (.bool P.nl) rfl
      have c10 := oldc k0 BW.out
      have c11 := oldc k1 BW.out
      have c12 := oldc k2 BW.out
      have c13 := oldc k3 BW.out
      have c14 := oldc k4 BW.out
      have c15 := oldc k5 BW.out
      clear HB
      have LK0 := fun w => like_is P O (.slice pa pm pc) (.slice la ln lc) w ⟨_, _, _, rfl⟩ ⟨_, _, _, rfl⟩ (.inr HK4.out)
      unfold opV at LK0
      go_wp2_with fail
      clear p0 p1 p2 p3 p4 p5
      generalize wr.alloc (.cells #[.int .i64 P.kind, .string P.key, .int .i64 P.value, .slice pa pm pc, .bool P.has, .bool P.nl] 31) = W at *
      cases hL : lik P O with
      | false =>
        rw [hL] at LK0
        have LK := hid LK0
        clear LK0
        refine wp_region_quiet_grown (by assumption) (by kernel_rfl) ?_
        repeat (go_big_quiet_step (exact Calls.grown_of (LK.out _)))
        refine wpQuiet_nil ?_
        intro w9 hw9
        obtain ⟨⟨nq, osq⟩, hw8⟩ := hw9
        subst hw8
        have B2 : Hid (Below w.heap.size w (grow (W.drewN nq) osq)) := BW.out.trans ((below_grow W nq osq).mono BW.out.size)
        have y00 := c00 nq osq
        have y01 := c01 nq osq
        have y02 := c02 nq osq
        have y03 := c03 nq osq
        have y04 := c04 nq osq
        have y05 := c05 nq osq
        have y10 := c10 nq osq
        have y11 := c11 nq osq
        have y12 := c12 nq osq
        have y13 := c13 nq osq
        have y14 := c14 nq osq
        have y15 := c15 nq osq
        clear c00 c01 c02 c03 c04 c05 c10 c11 c12 c13 c14 c15
        generalize grow (W.drewN nq) osq = W2 at *

        go_wp2_with fail
        go_roundg p
        · exact ⟨p, (p : Int) - 1, by omega, by omega, rfl, rfl, (by show rreg _ _ _ = rreg _ _ _; rw [RQ.out]; exact rreg_skip l O p (by rw [HP.out]; unfold skp; rw [hL]; rfl)), B2.out⟩
        · omega
      | true =>
        rw [hL] at LK0
        rcases lik_reg P O HK4.out hL with h3 | h4
        · have e4 : (P.kind == 4) = false := by simp [h3]
          have e3 : (P.kind == 3) = true := by simp [h3]
          have H3 := hid h3
          clear h3
          cases ho : O.nl with
          | true =>
            rw [ho] at c15 LK0
            have LK := hid LK0
            clear LK0

            refine wp_region_quiet_grown (by assumption) (by kernel_rfl) ?_
            repeat (go_big_quiet_step (exact Calls.grown_of (LK.out _)))
            refine wpQuiet_nil ?_
            intro w9 hw9
            obtain ⟨⟨nq, osq⟩, hw8⟩ := hw9
            subst hw8
            have B2 : Hid (Below w.heap.size w (grow (W.drewN nq) osq)) := BW.out.trans ((below_grow W nq osq).mono BW.out.size)
            have y00 := c00 nq osq
            have y01 := c01 nq osq
            have y02 := c02 nq osq
            have y03 := c03 nq osq
            have y04 := c04 nq osq
            have y05 := c05 nq osq
            have y10 := c10 nq osq
            have y11 := c11 nq osq
            have y12 := c12 nq osq
            have y13 := c13 nq osq
            have y14 := c14 nq osq
            have y15 := c15 nq osq
            clear c00 c01 c02 c03 c04 c05 c10 c11 c12 c13 c14 c15
            generalize grow (W.drewN nq) osq = W2 at *

            have RS : Hid (rreg l O i = says P O) := by show _ = _; rw [RQ.out, rreg_says l O p (by rw [HP.out]; unfold skp; rw [hL, e4]; rfl), HP.out]
            go_wp2_with fail
            go_quiet (fail)
            go_wp2_with fail
            go_ret
            exact ⟨by rw [RS.out]; unfold says; rw [if_pos H3.out, ho]; rfl, below_drewN B2.out _⟩
          | false =>
            rw [ho] at c15 LK0
            cases hv : (P.value == O.value) with
            | true =>
              have LK := hid LK0
              clear LK0

              refine wp_region_quiet_grown (by assumption) (by kernel_rfl) ?_
              repeat (go_big_quiet_step (exact Calls.grown_of (LK.out _)))
              refine wpQuiet_nil ?_
              intro w9 hw9
              obtain ⟨⟨nq, osq⟩, hw8⟩ := hw9
              subst hw8
              have B2 : Hid (Below w.heap.size w (grow (W.drewN nq) osq)) := BW.out.trans ((below_grow W nq osq).mono BW.out.size)
              have y00 := c00 nq osq
              have y01 := c01 nq osq
              have y02 := c02 nq osq
              have y03 := c03 nq osq
              have y04 := c04 nq osq
              have y05 := c05 nq osq
              have y10 := c10 nq osq
              have y11 := c11 nq osq
              have y12 := c12 nq osq
              have y13 := c13 nq osq
              have y14 := c14 nq osq
              have y15 := c15 nq osq
              clear c00 c01 c02 c03 c04 c05 c10 c11 c12 c13 c14 c15
              generalize grow (W.drewN nq) osq = W2 at *

              have RS : Hid (rreg l O i = says P O) := by show _ = _; rw [RQ.out, rreg_says l O p (by rw [HP.out]; unfold skp; rw [hL, e4]; rfl), HP.out]
              go_wp2_with fail
              go_quiet (fail)
              go_wp2_with fail
              go_ret
              exact ⟨by rw [RS.out]; unfold says; rw [if_pos H3.out, ho, hv]; rfl, below_drewN B2.out _⟩
            | false =>
              have LK := hid LK0
              clear LK0

              refine wp_region_quiet_grown (by assumption) (by kernel_rfl) ?_
              repeat (go_big_quiet_step (exact Calls.grown_of (LK.out _)))
              refine wpQuiet_nil ?_
              intro w9 hw9
              obtain ⟨⟨nq, osq⟩, hw8⟩ := hw9
              subst hw8
              have B2 : Hid (Below w.heap.size w (grow (W.drewN nq) osq)) := BW.out.trans ((below_grow W nq osq).mono BW.out.size)
              have y00 := c00 nq osq
              have y01 := c01 nq osq
              have y02 := c02 nq osq
              have y03 := c03 nq osq
              have y04 := c04 nq osq
              have y05 := c05 nq osq
              have y10 := c10 nq osq
              have y11 := c11 nq osq
              have y12 := c12 nq osq
              have y13 := c13 nq osq
              have y14 := c14 nq osq
              have y15 := c15 nq osq
              clear c00 c01 c02 c03 c04 c05 c10 c11 c12 c13 c14 c15
              generalize grow (W.drewN nq) osq = W2 at *

              have RS : Hid (rreg l O i = says P O) := by show _ = _; rw [RQ.out, rreg_says l O p (by rw [HP.out]; unfold skp; rw [hL, e4]; rfl), HP.out]
              go_wp2_with fail
              go_quiet (fail)
              go_wp2_with fail
              go_ret
              exact ⟨by rw [RS.out]; unfold says; rw [if_pos H3.out, ho, hv]; rfl, below_drewN B2.out _⟩
        · have e4 : (P.kind == 4) = true := by simp [h4]
          have e3 : (P.kind == 3) = false := by simp [h4]
          have H4 := hid h4
          clear h4
          cases hh : P.has with
          | false =>
            rw [hh] at c04 LK0
            have LK := hid LK0
            clear LK0

            refine wp_region_quiet_grown (by assumption) (by kernel_rfl) ?_
            repeat (go_big_quiet_step (exact Calls.grown_of (LK.out _)))
            refine wpQuiet_nil ?_
            intro w9 hw9
            obtain ⟨⟨nq, osq⟩, hw8⟩ := hw9
            subst hw8
            have B2 : Hid (Below w.heap.size w (grow (W.drewN nq) osq)) := BW.out.trans ((below_grow W nq osq).mono BW.out.size)
            have y00 := c00 nq osq
            have y01 := c01 nq osq
            have y02 := c02 nq osq
            have y03 := c03 nq osq
            have y04 := c04 nq osq
            have y05 := c05 nq osq
            have y10 := c10 nq osq
            have y11 := c11 nq osq
            have y12 := c12 nq osq
            have y13 := c13 nq osq
            have y14 := c14 nq osq
            have y15 := c15 nq osq
            clear c00 c01 c02 c03 c04 c05 c10 c11 c12 c13 c14 c15
            generalize grow (W.drewN nq) osq = W2 at *

            go_wp2_with fail
            go_roundg p
            · exact ⟨p, (p : Int) - 1, by omega, by omega, rfl, rfl, (by show rreg _ _ _ = rreg _ _ _; rw [RQ.out]; exact rreg_skip l O p (by rw [HP.out]; unfold skp; rw [hL, e4, hh]; rfl)), B2.out⟩
            · omega
          | true =>
            rw [hh] at c04 LK0
            cases hn : P.nl with
            | false =>
              rw [hn] at c05 LK0
              cases ho : O.nl with
              | false =>
                rw [ho] at c15 LK0
                cases hv : (P.value == O.value) with
                | true =>
                  have LK := hid LK0
                  clear LK0

                  refine wp_region_quiet_grown (by assumption) (by kernel_rfl) ?_
                  repeat (go_big_quiet_step (exact Calls.grown_of (LK.out _)))
                  refine wpQuiet_nil ?_
                  intro w9 hw9
                  obtain ⟨⟨nq, osq⟩, hw8⟩ := hw9
                  subst hw8
                  have B2 : Hid (Below w.heap.size w (grow (W.drewN nq) osq)) := BW.out.trans ((below_grow W nq osq).mono BW.out.size)
                  have y00 := c00 nq osq
                  have y01 := c01 nq osq
                  have y02 := c02 nq osq
                  have y03 := c03 nq osq
                  have y04 := c04 nq osq
                  have y05 := c05 nq osq
                  have y10 := c10 nq osq
                  have y11 := c11 nq osq
                  have y12 := c12 nq osq
                  have y13 := c13 nq osq
                  have y14 := c14 nq osq
                  have y15 := c15 nq osq
                  clear c00 c01 c02 c03 c04 c05 c10 c11 c12 c13 c14 c15
                  generalize grow (W.drewN nq) osq = W2 at *

                  have RS : Hid (rreg l O i = says P O) := by show _ = _; rw [RQ.out, rreg_says l O p (by rw [HP.out]; unfold skp; rw [hL, e4, hh]; rfl), HP.out]
                  go_wp2_with fail
                  go_quiet (fail)
                  go_wp2_with fail
                  go_ret
                  exact ⟨by rw [RS.out]; unfold says; rw [if_neg (by rw [H4.out]; decide), hn, ho, hv]; rfl, below_drewN B2.out _⟩
                | false =>
                  have LK := hid LK0
                  clear LK0

                  refine wp_region_quiet_grown (by assumption) (by kernel_rfl) ?_
                  repeat (go_big_quiet_step (exact Calls.grown_of (LK.out _)))
                  refine wpQuiet_nil ?_
                  intro w9 hw9
                  obtain ⟨⟨nq, osq⟩, hw8⟩ := hw9
                  subst hw8
                  have B2 : Hid (Below w.heap.size w (grow (W.drewN nq) osq)) := BW.out.trans ((below_grow W nq osq).mono BW.out.size)
                  have y00 := c00 nq osq
                  have y01 := c01 nq osq
                  have y02 := c02 nq osq
                  have y03 := c03 nq osq
                  have y04 := c04 nq osq
                  have y05 := c05 nq osq
                  have y10 := c10 nq osq
                  have y11 := c11 nq osq
                  have y12 := c12 nq osq
                  have y13 := c13 nq osq
                  have y14 := c14 nq osq
                  have y15 := c15 nq osq
                  clear c00 c01 c02 c03 c04 c05 c10 c11 c12 c13 c14 c15
                  generalize grow (W.drewN nq) osq = W2 at *

                  have RS : Hid (rreg l O i = says P O) := by show _ = _; rw [RQ.out, rreg_says l O p (by rw [HP.out]; unfold skp; rw [hL, e4, hh]; rfl), HP.out]
                  go_wp2_with fail
                  go_quiet (fail)
                  go_wp2_with fail
                  go_ret
                  exact ⟨by rw [RS.out]; unfold says; rw [if_neg (by rw [H4.out]; decide), hn, ho, hv]; rfl, below_drewN B2.out _⟩
              | true =>
                rw [ho] at c15 LK0
                have LK := hid LK0
                clear LK0

                refine wp_region_quiet_grown (by assumption) (by kernel_rfl) ?_
                repeat (go_big_quiet_step (exact Calls.grown_of (LK.out _)))
                refine wpQuiet_nil ?_
                intro w9 hw9
                obtain ⟨⟨nq, osq⟩, hw8⟩ := hw9
                subst hw8
                have B2 : Hid (Below w.heap.size w (grow (W.drewN nq) osq)) := BW.out.trans ((below_grow W nq osq).mono BW.out.size)
                have y00 := c00 nq osq
                have y01 := c01 nq osq
                have y02 := c02 nq osq
                have y03 := c03 nq osq
                have y04 := c04 nq osq
                have y05 := c05 nq osq
                have y10 := c10 nq osq
                have y11 := c11 nq osq
                have y12 := c12 nq osq
                have y13 := c13 nq osq
                have y14 := c14 nq osq
                have y15 := c15 nq osq
                clear c00 c01 c02 c03 c04 c05 c10 c11 c12 c13 c14 c15
                generalize grow (W.drewN nq) osq = W2 at *

                have RS : Hid (rreg l O i = says P O) := by show _ = _; rw [RQ.out, rreg_says l O p (by rw [HP.out]; unfold skp; rw [hL, e4, hh]; rfl), HP.out]
                go_wp2_with fail
                go_quiet (fail)
                go_wp2_with fail
                go_ret
                exact ⟨by rw [RS.out]; unfold says; rw [if_neg (by rw [H4.out]; decide), hn, ho]; rfl, below_drewN B2.out _⟩
            | true =>
              rw [hn] at c05 LK0
              cases ho : O.nl with
              | false =>
                rw [ho] at c15 LK0
                have LK := hid LK0
                clear LK0

                refine wp_region_quiet_grown (by assumption) (by kernel_rfl) ?_
                repeat (go_big_quiet_step (exact Calls.grown_of (LK.out _)))
                refine wpQuiet_nil ?_
                intro w9 hw9
                obtain ⟨⟨nq, osq⟩, hw8⟩ := hw9
                subst hw8
                have B2 : Hid (Below w.heap.size w (grow (W.drewN nq) osq)) := BW.out.trans ((below_grow W nq osq).mono BW.out.size)
                have y00 := c00 nq osq
                have y01 := c01 nq osq
                have y02 := c02 nq osq
                have y03 := c03 nq osq
                have y04 := c04 nq osq
                have y05 := c05 nq osq
                have y10 := c10 nq osq
                have y11 := c11 nq osq
                have y12 := c12 nq osq
                have y13 := c13 nq osq
                have y14 := c14 nq osq
                have y15 := c15 nq osq
                clear c00 c01 c02 c03 c04 c05 c10 c11 c12 c13 c14 c15
                generalize grow (W.drewN nq) osq = W2 at *

                have RS : Hid (rreg l O i = says P O) := by show _ = _; rw [RQ.out, rreg_says l O p (by rw [HP.out]; unfold skp; rw [hL, e4, hh]; rfl), HP.out]
                go_wp2_with fail
                go_quiet (fail)
                go_wp2_with fail
                go_ret
                exact ⟨by rw [RS.out]; unfold says; rw [if_neg (by rw [H4.out]; decide), hn, ho]; rfl, below_drewN B2.out _⟩
              | true =>
                rw [ho] at c15 LK0
                have LK := hid LK0
                clear LK0

                refine wp_region_quiet_grown (by assumption) (by kernel_rfl) ?_
                repeat (go_big_quiet_step (exact Calls.grown_of (LK.out _)))
                refine wpQuiet_nil ?_
                intro w9 hw9
                obtain ⟨⟨nq, osq⟩, hw8⟩ := hw9
                subst hw8
                have B2 : Hid (Below w.heap.size w (grow (W.drewN nq) osq)) := BW.out.trans ((below_grow W nq osq).mono BW.out.size)
                have y00 := c00 nq osq
                have y01 := c01 nq osq
                have y02 := c02 nq osq
                have y03 := c03 nq osq
                have y04 := c04 nq osq
                have y05 := c05 nq osq
                have y10 := c10 nq osq
                have y11 := c11 nq osq
                have y12 := c12 nq osq
                have y13 := c13 nq osq
                have y14 := c14 nq osq
                have y15 := c15 nq osq
                clear c00 c01 c02 c03 c04 c05 c10 c11 c12 c13 c14 c15
                generalize grow (W.drewN nq) osq = W2 at *

                have RS : Hid (rreg l O i = says P O) := by show _ = _; rw [RQ.out, rreg_says l O p (by rw [HP.out]; unfold skp; rw [hL, e4, hh]; rfl), HP.out]
                go_wp2_with fail
                go_quiet (fail)
                go_wp2_with fail
                go_ret
                exact ⟨by rw [RS.out]; unfold says; rw [if_neg (by rw [H4.out]; decide), hn, ho]; rfl, below_drewN B2.out _⟩
end Go.Proofs.Ytadlnkaphkbfdaa
