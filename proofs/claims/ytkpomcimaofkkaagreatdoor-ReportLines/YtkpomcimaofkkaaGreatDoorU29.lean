/-
  The document's Can of a report.
-/
import Derived.Test.YtkpomcimaofkkaaGreatDoorU28
namespace Go.Proofs.YtkpomcimaofkkaaGreatDoor.Rp
set_option linter.unusedVariables false
set_option linter.unusedSimpArgs false
open Go.RowKit Go.Lib

set_option maxHeartbeats 8000000 in
set_option maxRecDepth 100000 in
theorem dcan_is {S : Nat → Prop} (t : Int) (u : Bool) (aa : Option Addr) (al : List MA) (ac : Nat) (e x : Int) (oa : Option Addr) (os : List Int) (oc : Nat) (w : World) (hal : AnsS S w (.slice aa al.length ac) al) (hsm : ∀ a ∈ al, SmA a) :
    Calls Tryz.prog 30 #[.agg #[.int .i64 t, .bool u, .slice aa al.length ac, .int .i64 e, .int .i64 x, .slice oa os.length oc]] w fun en w' => en = .returned (.bool (canR (t, u, al, e, x, os))) ∧ Below w.heap.size w w' := by
  obtain ⟨W, hW⟩ : ∃ W, w.alloc (.cells #[.int .i64 t, .bool u, .slice aa al.length ac, .int .i64 e, .int .i64 x, .slice oa os.length oc] 25) = W := ⟨_, rfl⟩
  obtain ⟨o, ho⟩ : ∃ o, w.heap.size = o := ⟨_, rfl⟩
  have BW1 : Hid (Below w.heap.size w W) := by rw [← hW]; exact below_box _ _
  have BX : BoxW W o 25 #[.int .i64 t, .bool u, .slice aa al.length ac, .int .i64 e, .int .i64 x, .slice oa os.length oc] := by rw [← hW, ← ho]; exact box_new _ _ _
  have c0 : W.cell? ⟨o, 0, none⟩ = some (.int .i64 t) := BX.cell 0
  have c2 : W.cell? ⟨o, 2, none⟩ = some (.slice aa al.length ac) := BX.cell 2
  have c3 : W.cell? ⟨o, 3, none⟩ = some (.int .i64 e) := BX.cell 3
  have c4 : W.cell? ⟨o, 4, none⟩ = some (.int .i64 x) := BX.cell 4
  have c5 : W.cell? ⟨o, 5, none⟩ = some (.slice oa os.length oc) := BX.cell 5
  have HW : Hid (canR (t, u, al, e, x, os) = (((((((decide ((0 : Int) ≤ t) && decide (t ≤ (300 : Int))) && decide ((al.length : Int) ≤ (1000 : Int))) && !al.any wrongA) && (decide (0 ≤ e) && decide (e < 6))) && !(decide (x < 0) || decide (3 < x))) && decide ((os.length : Int) ≤ (300 : Int))) && ((x == 1) || ((os.length : Int) == 0)))) := by show (((((((decide ((0 : Int) ≤ t) && decide (t ≤ (300 : Int))) && decide ((al.length : Int) ≤ (1000 : Int))) && !al.any wrongA) && levelN e) && !((wordN answerWs x).toList == (⟨#[]⟩ : ByteArray).toList)) && decide ((os.length : Int) ≤ (300 : Int))) && ((x == 1) || ((os.length : Int) == 0))) = _; rw [answer_word_is]; rfl
  have HC := hid hal
  have HSM := hid hsm
  clear BX hal hsm
  by_cases h1 : t < 0
  · have h9 : ¬ (0 ≤ t) := by omega
    have HT : Hid (canR (t, u, al, e, x, os) = false) := by show _ = _; rw [HW.out]; simp [h9]
    clear h9
    clear HW HC HSM
    go_enter Tryz.func30, Tryz.ntmps30
    go_wp2_with fail
    go_ret
    exact ⟨by rw [HT.out]; rfl, by first | exact BW1.out | (rw [← ho]; exact BW1.out)⟩
  by_cases h2 : 300 < t
  · have h9 : ¬ (t ≤ 300) := by omega
    have HT : Hid (canR (t, u, al, e, x, os) = false) := by show _ = _; rw [HW.out]; simp [h9]
    clear h9
    clear HW HC HSM
    go_enter Tryz.func30, Tryz.ntmps30
    go_wp2_with fail
    go_ret
    exact ⟨by rw [HT.out]; rfl, by first | exact BW1.out | (rw [← ho]; exact BW1.out)⟩
  by_cases h3 : (1000 : Int) < (al.length : Int)
  · have h9 : ¬ ((al.length : Int) ≤ 1000) := by omega
    have HT : Hid (canR (t, u, al, e, x, os) = false) := by show _ = _; rw [HW.out]; simp [h9]
    clear h9
    clear HW HC HSM
    go_enter Tryz.func30, Tryz.ntmps30
    go_wp2_with fail
    go_ret
    exact ⟨by rw [HT.out]; rfl, by first | exact BW1.out | (rw [← ho]; exact BW1.out)⟩
  by_cases h4 : e < 0
  · have h9 : ¬ (0 ≤ e) := by omega
    have HT : Hid (canR (t, u, al, e, x, os) = false) := by show _ = _; rw [HW.out]; simp [h9]
    clear h9
    clear HW HC HSM
    go_enter Tryz.func30, Tryz.ntmps30
    go_wp2_with fail
    go_ret
    exact ⟨by rw [HT.out]; rfl, by first | exact BW1.out | (rw [← ho]; exact BW1.out)⟩
  by_cases h5 : 5 < e
  · have h9 : ¬ (e < 6) := by omega
    have HT : Hid (canR (t, u, al, e, x, os) = false) := by show _ = _; rw [HW.out]; simp [h9]
    clear h9
    clear HW HC HSM
    go_enter Tryz.func30, Tryz.ntmps30
    go_wp2_with fail
    go_ret
    exact ⟨by rw [HT.out]; rfl, by first | exact BW1.out | (rw [← ho]; exact BW1.out)⟩
  by_cases h6 : x < 0
  · have HT : Hid (canR (t, u, al, e, x, os) = false) := by show _ = _; rw [HW.out]; simp [h6]
    clear HW HC HSM
    go_enter Tryz.func30, Tryz.ntmps30
    go_wp2_with fail
    go_ret
    exact ⟨by rw [HT.out]; rfl, by first | exact BW1.out | (rw [← ho]; exact BW1.out)⟩
  by_cases h7 : 3 < x
  · have HT : Hid (canR (t, u, al, e, x, os) = false) := by show _ = _; rw [HW.out]; simp [h7]
    clear HW HC HSM
    go_enter Tryz.func30, Tryz.ntmps30
    go_wp2_with fail
    go_ret
    exact ⟨by rw [HT.out]; rfl, by first | exact BW1.out | (rw [← ho]; exact BW1.out)⟩
  by_cases h8 : (300 : Int) < (os.length : Int)
  · have h9 : ¬ ((os.length : Int) ≤ 300) := by omega
    have HT : Hid (canR (t, u, al, e, x, os) = false) := by show _ = _; rw [HW.out]; simp [h9]
    clear h9
    clear HW HC HSM
    go_enter Tryz.func30, Tryz.ntmps30
    go_wp2_with fail
    go_ret
    exact ⟨by rw [HT.out]; rfl, by first | exact BW1.out | (rw [← ho]; exact BW1.out)⟩
  have hgo : ∀ (hx : (x = 1) ∨ (¬ x = 1 ∧ ¬ (0 : Int) < (os.length : Int))), Hid (canR (t, u, al, e, x, os) = !al.any wrongA) := fun hx => by
    show _ = _
    have g1 : 0 ≤ t := by omega
    have g2 : t ≤ 300 := by omega
    have g3 : (al.length : Int) ≤ 1000 := by omega
    have g4 : 0 ≤ e := by omega
    have g5 : e < 6 := by omega
    have g8 : (os.length : Int) ≤ 300 := by omega
    have g9 : ((x == 1) || ((os.length : Int) == 0)) = true := by
      rcases hx with c | ⟨c1, c2⟩
      · simp [c]
      · have : (os.length : Int) = 0 := by omega
        simp [this]
    rw [HW.out, g9]
    simp only [g1, g2, g3, g4, g5, g8, h6, h7, decide_true, decide_false, Bool.true_and, Bool.and_true, Bool.or_false, Bool.not_false]
  by_cases h9 : x = 1
  · have HR := hgo (.inl h9)
    subst h9
    clear HW hgo
    go_enter Tryz.func30, Tryz.ntmps30
    go_wp2_with fail
    clear hW ho c0 c2 c3 c4 c5
    go_loopg [59] al.length (fun gg i wr => ∃ k : Nat, k ≤ al.length ∧ al.length - k ≤ gg ∧ i = .int .i64 k ∧ Aside (∀ j, j < k → wrongA (al.getD j default) = false) ∧ Aside (Below W.heap.size W wr))
    case atStart => exact ⟨0, Nat.zero_le _, by omega, rfl, fun j hj => by omega, Below.refl _ _⟩
    case round =>
      obtain ⟨k, hk, hg, rfl, NX, BX⟩ := hrel
      have BWR : Hid (Below w.heap.size w wr) := BW1.out.trans (BX.out.mono BW1.out.size)
      by_cases hlt : k < al.length
      · have hlti : (k : Int) < al.length := by omega
        have hk0 : (0 : Int) ≤ k := by omega
        have HR2 := RowsIn.keep HC.out (by omega) (R' := AnS S wr) (fun _ _ h => anS_keep _ _ _ _ _ _ h (keeps_below BWR.out) (fun _ _ h => h)) (keeps_below BWR.out) (fun _ _ h => h)
        obtain ⟨ao2, c2, e2, _, hrc⟩ := Tx.RowsIn.cells HR2 (by omega)
        obtain ⟨b, off, cs, hab, hbl, hlen, hrow, hcs⟩ := hrc k hlt
        simp only [Value.slice.injEq, true_and] at e2
        obtain ⟨e2, e3⟩ := e2
        subst hab
        subst e2
        subst e3
        obtain ⟨⟨y0, y1, y2, y3, y4, y5, cyc, y7, y8⟩, hx⟩ : ∃ x, al.getD k default = x := ⟨_, rfl⟩
        rw [hx] at hrow
        obtain ⟨cv, hcv, hcyc⟩ := hrow
        obtain ⟨ca, cc, rfl, _⟩ := id hcyc
        have hrow : cs = encA (y0, y1, y2, y3, y4, y5, cyc, y7, y8) (.slice ca cyc.length cc) := hcv
        replace hcyc : WhysS S wr (.slice ca cyc.length cc) cyc := hcyc
        clear hcv
        subst hrow
        have HX := hid hx
        have hsa := HSM.out (al.getD k default) (by rw [List.getD, List.getElem?_eq_getElem hlt]; exact List.getElem_mem _)
        rw [hx] at hsa
        clear hx HR2 hrc
        have k0 : wr.cell? ⟨b, off + k * 9, none⟩ = some (.int .i64 y0) := by simpa using hcs 0 (.int .i64 y0) rfl
        have k1 : wr.cell? ⟨b, off + k * 9 + 1, none⟩ = some (.int .i64 y1) := by simpa using hcs 1 (.int .i64 y1) rfl
        have k2 : wr.cell? ⟨b, off + k * 9 + 2, none⟩ = some (.int .i64 y2) := by simpa using hcs 2 (.int .i64 y2) rfl
        have k3 : wr.cell? ⟨b, off + k * 9 + 3, none⟩ = some (.int .i64 y3) := by simpa using hcs 3 (.int .i64 y3) rfl
        have k4 : wr.cell? ⟨b, off + k * 9 + 4, none⟩ = some (.string y4) := by simpa using hcs 4 (.string y4) rfl
        have k5 : wr.cell? ⟨b, off + k * 9 + 5, none⟩ = some (.int .i64 y5) := by simpa using hcs 5 (.int .i64 y5) rfl
        have k6 : wr.cell? ⟨b, off + k * 9 + 6, none⟩ = some (.slice ca cyc.length cc) := by simpa using hcs 6 (.slice ca cyc.length cc) rfl
        have k7 : wr.cell? ⟨b, off + k * 9 + 7, none⟩ = some (.bool y7) := by simpa using hcs 7 (.bool y7) rfl
        have k8 : wr.cell? ⟨b, off + k * 9 + 8, none⟩ = some (.int .i64 y8) := by simpa using hcs 8 (.int .i64 y8) rfl
        clear hcs hlen
        obtain ⟨W2, hW2⟩ : ∃ W2, wr.alloc (.cells #[.int .i64 y0, .int .i64 y1, .int .i64 y2, .int .i64 y3, .string y4, .int .i64 y5, .slice ca cyc.length cc, .bool y7, .int .i64 y8] 68) = W2 := ⟨_, rfl⟩
        obtain ⟨oy, hoy⟩ : ∃ oy, wr.heap.size = oy := ⟨_, rfl⟩
        have B2 := below_box wr (.cells #[.int .i64 y0, .int .i64 y1, .int .i64 y2, .int .i64 y3, .string y4, .int .i64 y5, .slice ca cyc.length cc, .bool y7, .int .i64 y8] 68)
        rw [hW2] at B2
        have XY : BoxW W2 oy 68 #[.int .i64 y0, .int .i64 y1, .int .i64 y2, .int .i64 y3, .string y4, .int .i64 y5, .slice ca cyc.length cc, .bool y7, .int .i64 y8] := by rw [← hW2, ← hoy]; exact box_new _ _ _
        have n0 : W2.cell? ⟨oy, 0, none⟩ = some (.int .i64 y0) := XY.cell 0
        have n1 : W2.cell? ⟨oy, 1, none⟩ = some (.int .i64 y1) := XY.cell 1
        have n2 : W2.cell? ⟨oy, 2, none⟩ = some (.int .i64 y2) := XY.cell 2
        have n3 : W2.cell? ⟨oy, 3, none⟩ = some (.int .i64 y3) := XY.cell 3
        have n4 : W2.cell? ⟨oy, 4, none⟩ = some (.string y4) := XY.cell 4
        have n5 : W2.cell? ⟨oy, 5, none⟩ = some (.int .i64 y5) := XY.cell 5
        have n6 : W2.cell? ⟨oy, 6, none⟩ = some (.slice ca cyc.length cc) := XY.cell 6
        have n7 : W2.cell? ⟨oy, 7, none⟩ = some (.bool y7) := XY.cell 7
        have n8 : W2.cell? ⟨oy, 8, none⟩ = some (.int .i64 y8) := XY.cell 8
        have BB := hid (BX.out.trans (B2.mono BX.out.size))
        have MY := hid (dmay_is y0 y1 y2 y3 y4 y5 ca cyc cc y7 y8 W2 (RowsIn.keep hcyc (by omega) (fun _ _ h => h) (keeps_below B2) (fun _ _ h => h)) hsa)
        clear B2 XY hcyc hsa
        cases hwa : wrongA (y0, y1, y2, y3, y4, y5, cyc, y7, y8) with
        | true =>
          rw [hwa] at MY
          have EA : Hid (al.any wrongA = true) := any_at hlt (by rw [HX.out]; exact hwa)
          clear hwa
          go_wp2_with fail
          go_at_call 75
          refine MY.out.mono ?_
          rintro en w3 ⟨rfl, b3⟩
          have B3 := hid b3
          clear b3
          go_wp2_with fail
          go_ret
          exact ⟨by rw [HR.out, EA.out]; rfl, BW1.out.trans ((BB.out.trans (B3.out.mono BB.out.size)).mono BW1.out.size)⟩
        | false =>
          rw [hwa] at MY
          have EX : Hid (∀ j, j < k + 1 → wrongA (al.getD j default) = false) := fun j hj => by
            by_cases e : j = k
            · subst e
              rw [HX.out]; exact hwa
            · exact NX.out j (by omega)
          clear hwa NX
          go_wp2_with fail
          go_at_call 75
          refine MY.out.mono ?_
          rintro en w3 ⟨rfl, b3⟩
          have B3 := hid b3
          clear b3
          go_wp2_with fail
          go_roundg (al.length - (k + 1))
          case measure => omega
          case rel => exact ⟨k + 1, by omega, by omega, by go_num, EX.out, BB.out.trans (B3.out.mono BB.out.size)⟩
      · have hlti : ¬ (k : Int) < al.length := by omega
        have EA : Hid (al.any wrongA = false) := any_none (fun j hj => NX.out j (by omega))
        clear NX
        go_wp2_with fail
        go_ret
        exact ⟨by rw [HR.out, EA.out]; rfl, BWR.out⟩
  have h9b : (x == 1) = false := by simpa using h9
  have h9c : (x != 1) = true := by simpa using h9
  by_cases h10 : (0 : Int) < (os.length : Int)
  · have h9e : ((os.length : Int) == 0) = false := by simpa using (by omega : ¬ (os.length : Int) = 0)
    have HT : Hid (canR (t, u, al, e, x, os) = false) := by show _ = _; rw [HW.out, h9e, h9b]; simp
    clear hgo h9e
    clear HW HC HSM
    go_enter Tryz.func30, Tryz.ntmps30
    go_wp2_with fail
    go_ret
    exact ⟨by rw [HT.out]; rfl, by first | exact BW1.out | (rw [← ho]; exact BW1.out)⟩
  have HR := hgo (.inr ⟨h9, h10⟩)
  clear HW hgo
  go_enter Tryz.func30, Tryz.ntmps30
  go_wp2_with fail
  clear hW ho c0 c2 c3 c4 c5
  go_loopg [59] al.length (fun gg i wr => ∃ k : Nat, k ≤ al.length ∧ al.length - k ≤ gg ∧ i = .int .i64 k ∧ Aside (∀ j, j < k → wrongA (al.getD j default) = false) ∧ Aside (Below W.heap.size W wr))
  case atStart => exact ⟨0, Nat.zero_le _, by omega, rfl, fun j hj => by omega, Below.refl _ _⟩
  case round =>
    obtain ⟨k, hk, hg, rfl, NX, BX⟩ := hrel
    have BWR : Hid (Below w.heap.size w wr) := BW1.out.trans (BX.out.mono BW1.out.size)
    by_cases hlt : k < al.length
    · have hlti : (k : Int) < al.length := by omega
      have hk0 : (0 : Int) ≤ k := by omega
      have HR2 := RowsIn.keep HC.out (by omega) (R' := AnS S wr) (fun _ _ h => anS_keep _ _ _ _ _ _ h (keeps_below BWR.out) (fun _ _ h => h)) (keeps_below BWR.out) (fun _ _ h => h)
      obtain ⟨ao2, c2, e2, _, hrc⟩ := Tx.RowsIn.cells HR2 (by omega)
      obtain ⟨b, off, cs, hab, hbl, hlen, hrow, hcs⟩ := hrc k hlt
      simp only [Value.slice.injEq, true_and] at e2
      obtain ⟨e2, e3⟩ := e2
      subst hab
      subst e2
      subst e3
      obtain ⟨⟨y0, y1, y2, y3, y4, y5, cyc, y7, y8⟩, hx⟩ : ∃ x, al.getD k default = x := ⟨_, rfl⟩
      rw [hx] at hrow
      obtain ⟨cv, hcv, hcyc⟩ := hrow
      obtain ⟨ca, cc, rfl, _⟩ := id hcyc
      have hrow : cs = encA (y0, y1, y2, y3, y4, y5, cyc, y7, y8) (.slice ca cyc.length cc) := hcv
      replace hcyc : WhysS S wr (.slice ca cyc.length cc) cyc := hcyc
      clear hcv
      subst hrow
      have HX := hid hx
      have hsa := HSM.out (al.getD k default) (by rw [List.getD, List.getElem?_eq_getElem hlt]; exact List.getElem_mem _)
      rw [hx] at hsa
      clear hx HR2 hrc
      have k0 : wr.cell? ⟨b, off + k * 9, none⟩ = some (.int .i64 y0) := by simpa using hcs 0 (.int .i64 y0) rfl
      have k1 : wr.cell? ⟨b, off + k * 9 + 1, none⟩ = some (.int .i64 y1) := by simpa using hcs 1 (.int .i64 y1) rfl
      have k2 : wr.cell? ⟨b, off + k * 9 + 2, none⟩ = some (.int .i64 y2) := by simpa using hcs 2 (.int .i64 y2) rfl
      have k3 : wr.cell? ⟨b, off + k * 9 + 3, none⟩ = some (.int .i64 y3) := by simpa using hcs 3 (.int .i64 y3) rfl
      have k4 : wr.cell? ⟨b, off + k * 9 + 4, none⟩ = some (.string y4) := by simpa using hcs 4 (.string y4) rfl
      have k5 : wr.cell? ⟨b, off + k * 9 + 5, none⟩ = some (.int .i64 y5) := by simpa using hcs 5 (.int .i64 y5) rfl
      have k6 : wr.cell? ⟨b, off + k * 9 + 6, none⟩ = some (.slice ca cyc.length cc) := by simpa using hcs 6 (.slice ca cyc.length cc) rfl
      have k7 : wr.cell? ⟨b, off + k * 9 + 7, none⟩ = some (.bool y7) := by simpa using hcs 7 (.bool y7) rfl
      have k8 : wr.cell? ⟨b, off + k * 9 + 8, none⟩ = some (.int .i64 y8) := by simpa using hcs 8 (.int .i64 y8) rfl
      clear hcs hlen
      obtain ⟨W2, hW2⟩ : ∃ W2, wr.alloc (.cells #[.int .i64 y0, .int .i64 y1, .int .i64 y2, .int .i64 y3, .string y4, .int .i64 y5, .slice ca cyc.length cc, .bool y7, .int .i64 y8] 68) = W2 := ⟨_, rfl⟩
      obtain ⟨oy, hoy⟩ : ∃ oy, wr.heap.size = oy := ⟨_, rfl⟩
      have B2 := below_box wr (.cells #[.int .i64 y0, .int .i64 y1, .int .i64 y2, .int .i64 y3, .string y4, .int .i64 y5, .slice ca cyc.length cc, .bool y7, .int .i64 y8] 68)
      rw [hW2] at B2
      have XY : BoxW W2 oy 68 #[.int .i64 y0, .int .i64 y1, .int .i64 y2, .int .i64 y3, .string y4, .int .i64 y5, .slice ca cyc.length cc, .bool y7, .int .i64 y8] := by rw [← hW2, ← hoy]; exact box_new _ _ _
      have n0 : W2.cell? ⟨oy, 0, none⟩ = some (.int .i64 y0) := XY.cell 0
      have n1 : W2.cell? ⟨oy, 1, none⟩ = some (.int .i64 y1) := XY.cell 1
      have n2 : W2.cell? ⟨oy, 2, none⟩ = some (.int .i64 y2) := XY.cell 2
      have n3 : W2.cell? ⟨oy, 3, none⟩ = some (.int .i64 y3) := XY.cell 3
      have n4 : W2.cell? ⟨oy, 4, none⟩ = some (.string y4) := XY.cell 4
      have n5 : W2.cell? ⟨oy, 5, none⟩ = some (.int .i64 y5) := XY.cell 5
      have n6 : W2.cell? ⟨oy, 6, none⟩ = some (.slice ca cyc.length cc) := XY.cell 6
      have n7 : W2.cell? ⟨oy, 7, none⟩ = some (.bool y7) := XY.cell 7
      have n8 : W2.cell? ⟨oy, 8, none⟩ = some (.int .i64 y8) := XY.cell 8
      have BB := hid (BX.out.trans (B2.mono BX.out.size))
      have MY := hid (dmay_is y0 y1 y2 y3 y4 y5 ca cyc cc y7 y8 W2 (RowsIn.keep hcyc (by omega) (fun _ _ h => h) (keeps_below B2) (fun _ _ h => h)) hsa)
      clear B2 XY hcyc hsa
      cases hwa : wrongA (y0, y1, y2, y3, y4, y5, cyc, y7, y8) with
      | true =>
        rw [hwa] at MY
        have EA : Hid (al.any wrongA = true) := any_at hlt (by rw [HX.out]; exact hwa)
        clear hwa
        go_wp2_with fail
        go_at_call 75
        refine MY.out.mono ?_
        rintro en w3 ⟨rfl, b3⟩
        have B3 := hid b3
        clear b3
        go_wp2_with fail
        go_ret
        exact ⟨by rw [HR.out, EA.out]; rfl, BW1.out.trans ((BB.out.trans (B3.out.mono BB.out.size)).mono BW1.out.size)⟩
      | false =>
        rw [hwa] at MY
        have EX : Hid (∀ j, j < k + 1 → wrongA (al.getD j default) = false) := fun j hj => by
          by_cases e : j = k
          · subst e
            rw [HX.out]; exact hwa
          · exact NX.out j (by omega)
        clear hwa NX
        go_wp2_with fail
        go_at_call 75
        refine MY.out.mono ?_
        rintro en w3 ⟨rfl, b3⟩
        have B3 := hid b3
        clear b3
        go_wp2_with fail
        go_roundg (al.length - (k + 1))
        case measure => omega
        case rel => exact ⟨k + 1, by omega, by omega, by go_num, EX.out, BB.out.trans (B3.out.mono BB.out.size)⟩
    · have hlti : ¬ (k : Int) < al.length := by omega
      have EA : Hid (al.any wrongA = false) := any_none (fun j hj => NX.out j (by omega))
      clear NX
      go_wp2_with fail
      go_ret
      exact ⟨by rw [HR.out, EA.out]; rfl, BWR.out⟩
end Go.Proofs.YtkpomcimaofkkaaGreatDoor.Rp
