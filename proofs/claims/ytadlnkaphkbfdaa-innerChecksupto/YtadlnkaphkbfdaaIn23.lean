/-
  The document's Check.
-/
import Derived.Test.YtadlnkaphkbfdaaIn22
import Derived.Deep.RegionWith
namespace Go.Proofs.Ytadlnkaphkbfdaa
set_option linter.unusedVariables false
set_option linter.unusedSimpArgs false
open Go.RowKit Go.Lib Go.Sort

set_option maxHeartbeats 2000000 in
set_option maxRecDepth 100000 in
theorem rcheck_is (v : Value) (l : List MOp) (w : World) (h : OpsIn Any w v l) (hv : ∀ i m, (rvw l (l.getD i default) m).2.length ≤ 1099511627776) :
    Calls Try.prog 11 #[v] w fun e w' => ∃ r, e = .returned (.int .i64 r) ∧ IsFirst (rbad l) l.length r ∧ Below w.heap.size w w' := by
  have RL := hid (fun (w' : World) (hb : Below w.heap.size w w') i hi h2 => rlist_is v l w' (h.below hb) i hi h2 (hv i))
  have RG := hid (fun (w' : World) (hb : Below w.heap.size w w') i hi h4 => rreg_is v l w' (h.below hb) i hi h4)
  obtain ⟨ao, c, rfl, ⟨hby, hcap⟩, hc⟩ := ops_at h
  have HC := hid hc
  have hlen2 : (l.length : Int) ≤ 2199023255552 := by omega
  clear h hc hv
  go_enter Try.func11, Try.ntmps11
  go_wp2_with fail
  go_loopg [7] l.length (fun g iv wr => ∃ m : Nat, m ≤ l.length ∧ l.length - m ≤ g ∧ iv = .int .i64 m ∧ Aside (∀ j, j < m → rbad l j = false) ∧ Aside (Below w.heap.size w wr))
  case atStart => exact ⟨0, Nat.zero_le _, by omega, rfl, fun j hj => by omega, Below.refl _ _⟩
  case round =>
    obtain ⟨m, hm, hg, rfl, NB, BX⟩ := hrel
    by_cases hml : m < l.length
    · have hmi : (m : Int) < l.length := by omega
      obtain ⟨bz, oz, lv1, rfl, hI, m0, m1, m2, m3, m4, m5⟩ := HC.out m hml
      have p0 := (BX.out.cell (p := ⟨bz, oz + m * 6, none⟩) (World.block_lt_of_cell? _ _ m0)).trans m0
      have p1 := (BX.out.cell (p := ⟨bz, oz + m * 6 + 1, none⟩) (World.block_lt_of_cell? _ _ m1)).trans m1
      have p2 := (BX.out.cell (p := ⟨bz, oz + m * 6 + 2, none⟩) (World.block_lt_of_cell? _ _ m2)).trans m2
      have p3 := (BX.out.cell (p := ⟨bz, oz + m * 6 + 3, none⟩) (World.block_lt_of_cell? _ _ m3)).trans m3
      have p4 := (BX.out.cell (p := ⟨bz, oz + m * 6 + 4, none⟩) (World.block_lt_of_cell? _ _ m4)).trans m4
      have p5 := (BX.out.cell (p := ⟨bz, oz + m * 6 + 5, none⟩) (World.block_lt_of_cell? _ _ m5)).trans m5
      clear m0 m1 m2 m3 m4 m5
      obtain ⟨pa, pm, pc, hl1⟩ : ∃ a n c, lv1 = .slice a n c := by obtain ⟨a, c, h, _⟩ := hI; exact ⟨a, _, c, h⟩
      subst hl1
      obtain ⟨P, hP⟩ : ∃ P, l.getD m default = P := ⟨_, rfl⟩
      rw [hP] at p0 p1 p2 p4 p5
      have HP := hid hP
      clear hP hI
      go_wp2_with fail
      go_at_call 36
      refine (rread_is P (.slice pa pm pc) _).mono ?_
      rintro e w1 ⟨rfl, b1⟩
      have B1 := hid (BX.out.trans (((below_box wr (.cells #[.int .i64 P.kind, .string P.key, .int .i64 P.value, .slice pa pm pc, .bool P.has, .bool P.nl] 31)).trans (b1.mono (by rw [alloc_size]; omega))).mono BX.out.size))
      have z0 : w1.cell? ⟨wr.heap.size, 0, none⟩ = some (.int .i64 P.kind) := (b1.cell (p := ⟨wr.heap.size, 0, none⟩) (by rw [alloc_size]; show wr.heap.size < _; omega)).trans ((box6 (heap_alloc_new wr _)).1)
      clear b1 p0 p1 p2 p3 p4 p5
      cases hR : rds P with
      | false =>
        have RB : Hid (rbad l m = false) := by show _ = _; unfold rbad; rw [HP.out, hR]; rfl
        go_wp2_with fail
        go_roundg (l.length - (m + 1))
        · exact ⟨m + 1, by omega, by omega, by go_num, (fun j hj => by
            by_cases hjm : j < m
            · exact NB.out j hjm
            · obtain rfl : j = m := by omega
              exact RB.out), B1.out⟩
        · omega
      | true =>
        have hkk : P.kind = 2 ∨ P.kind = 4 := by unfold rds at hR; simp at hR; exact hR.2
        rcases hkk with hk | hk
        · skip
          have e2 : (P.kind == 2) = true := by simp [hk]
          have e4 : (P.kind == 4) = false := by simp [hk]
          have H2 : Hid ((l.getD m default).kind = 2) := by show _ = _; rw [HP.out]; exact hk
          clear hk
          go_wp2_with fail
          go_at_call 37
          refine (RL.out w1 B1.out m hml H2.out).mono ?_
          rintro e w2 ⟨rfl, b2⟩
          have B3 := hid (B1.out.trans (b2.mono B1.out.size))
          have z1 := (b2.cell (p := ⟨wr.heap.size, 0, none⟩) (World.block_lt_of_cell? _ _ z0)).trans z0
          clear b2 z0
          rw [HP.out]
          cases hr : rightL l P m with
          | true =>
            have RB : Hid (rbad l m = false) := by show _ = _; unfold rbad; rw [HP.out, hR, e2, e4, hr]; rfl
            go_wp2_with fail
            go_roundg (l.length - (m + 1))
            · exact ⟨m + 1, by omega, by omega, by go_num, (fun j hj => by
                by_cases hjm : j < m
                · exact NB.out j hjm
                · obtain rfl : j = m := by omega
                  exact RB.out), B3.out⟩
            · omega
          | false =>
            have RB : Hid (rbad l m = true) := by show _ = _; unfold rbad; rw [HP.out, hR, e2, e4, hr]; rfl
            go_wp2_with fail
            go_ret
            exact ⟨(m : Int), rfl, .inr ⟨m, hml, rfl, RB.out, NB.out⟩, B3.out⟩
        · skip
          have e4 : (P.kind == 4) = true := by simp [hk]
          have e2 : (P.kind == 2) = false := by simp [hk]
          have H4 : Hid ((l.getD m default).kind = 4) := by show _ = _; rw [HP.out]; exact hk
          clear hk
          go_wp2_with fail
          go_at_call 38
          refine (RG.out w1 B1.out m hml H4.out).mono ?_
          rintro e w2 ⟨rfl, b2⟩
          have B3 := hid (B1.out.trans (b2.mono B1.out.size))
          have z1 := (b2.cell (p := ⟨wr.heap.size, 0, none⟩) (World.block_lt_of_cell? _ _ z0)).trans z0
          clear b2 z0
          rw [HP.out]
          cases hr : rreg l P m with
          | true =>
            have RB : Hid (rbad l m = false) := by show _ = _; unfold rbad; rw [HP.out, hR, e2, e4, hr]; rfl
            go_wp2_with fail
            go_roundg (l.length - (m + 1))
            · exact ⟨m + 1, by omega, by omega, by go_num, (fun j hj => by
                by_cases hjm : j < m
                · exact NB.out j hjm
                · obtain rfl : j = m := by omega
                  exact RB.out), B3.out⟩
            · omega
          | false =>
            have RB : Hid (rbad l m = true) := by show _ = _; unfold rbad; rw [HP.out, hR, e2, e4, hr]; rfl
            go_wp2_with fail
            go_ret
            exact ⟨(m : Int), rfl, .inr ⟨m, hml, rfl, RB.out, NB.out⟩, B3.out⟩
    · have hmi : ¬ (m : Int) < l.length := by omega
      go_wp2_with fail
      go_ret
      exact ⟨-1, rfl, .inl ⟨rfl, fun j hj => NB.out j (by omega)⟩, BX.out⟩
end Go.Proofs.Ytadlnkaphkbfdaa
